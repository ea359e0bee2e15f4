/- The contracts of Steps, Down, find, newFile. An entry that came in: what the reading says of it. The contracts of CopyEntry and SameEntry. The contract of rec.Encode. -/
import Derived.Lib.AppendStr
import Derived.OwnWalk
import Derived.Test.YtibjcofbhldenaaGreatDoorZ15
import Derived.Test.YtibjcofbhldenaaGreatDoorZ16
import Derived.Test.YtibjcofbhldenaaGreatDoorZ02
import Derived.Test.YtibjcofbhldenaaGreatDoorZ03
import Derived.Test.YtibjcofbhldenaaGreatDoorZ01
import Derived.Test.YtibjcofbhldenaaGreatDoorZ04
namespace Go.Proofs.YtibjcofbhldenaaGreatDoor
open Go.RowKit
set_option maxHeartbeats 400000 in
theorem stepsC {o : Ow} {g : Nat} {s : Dk} {W : World} (h : Dsk o g s W) : Calls Tryz.prog 12 #[.pointer (some ⟨g, 0, none⟩)] W fun e W' => e = .returned (.int .i64 (s.n : Int)) ∧ W' = W := by
  obtain ⟨m0, m1, m2, pv, fb, cs, v⟩ := h
  obtain ⟨⟨_, _, _, c3, _⟩, _⟩ := cells_eight v.blk
  clear v
  go_enter Tryz.func12, Tryz.ntmps12
  go_wp2_with fail
  go_ret
  exact ⟨rfl, rfl⟩
set_option maxHeartbeats 1000000 in
theorem downC {o : Ow} {g : Nat} {s : Dk} {W : World} (h : Dsk o g s W) : Calls Tryz.prog 80 #[.pointer (some ⟨g, 0, none⟩)] W fun e W' => e = .returned (.bool s.down) ∧ ∃ n, W' = W.drewN n := by
  obtain ⟨m0, m1, m2, pv, fb, cs, v⟩ := h
  obtain ⟨⟨_, c1, _, c3, _⟩, _⟩ := cells_eight v.blk
  clear v
  by_cases hp : 0 ≤ s.power
  · by_cases hn : (s.n : Int) = s.power
    · have D : Hid (s.down = true) := by unfold Hid Dk.down; rw [decide_eq_true_iff]; exact ⟨hp, hn⟩
      have q1 : decide (0 ≤ s.power) = true := by simpa using hp
      have q2 : ((s.n : Int) == s.power) = true := by simpa using hn
      generalize (s.n : Int) = a at c3 q2
      generalize s.power = p at c1 q1 q2
      clear hp hn
      go_enter Tryz.func80, Tryz.ntmps80
      go_wp2_with fail
      go_quiet (fail)
      go_wp2_with fail
      go_ret
      rw [D.out]
      exact ⟨rfl, _, rfl⟩
    · have D : Hid (s.down = false) := by unfold Hid Dk.down; rw [decide_eq_false_iff_not]; exact fun h => hn h.2
      have q1 : decide (0 ≤ s.power) = true := by simpa using hp
      have q2 : ((s.n : Int) == s.power) = false := by simpa using hn
      generalize (s.n : Int) = a at c3 q2
      generalize s.power = p at c1 q1 q2
      clear hp hn
      go_enter Tryz.func80, Tryz.ntmps80
      go_wp2_with fail
      go_quiet (fail)
      go_wp2_with fail
      go_ret
      rw [D.out]
      exact ⟨rfl, _, rfl⟩
  · have D : Hid (s.down = false) := by unfold Hid Dk.down; rw [decide_eq_false_iff_not]; exact fun h => hp h.1
    have q1 : decide (0 ≤ s.power) = false := by simpa using hp
    generalize (s.n : Int) = a at c3
    generalize s.power = p at c1 q1
    clear hp
    go_enter Tryz.func80, Tryz.ntmps80
    go_wp2_with fail
    go_quiet (fail)
    go_wp2_with fail
    go_ret
    rw [D.out]
    exact ⟨rfl, _, rfl⟩
/-- what find answers -/
def findV (fb : Nat → Nat) (l : NL) (n : Nm) : Value := match atN l n with | some k => .tuple #[.pointer (some ⟨fb k, 0, none⟩), .int .i64 0] | none => .tuple #[.pointer none, .int .i64 90]
set_option maxHeartbeats 1000000 in
theorem findC {o : Ow} {g m0 m1 m2 : Nat} {pv : Value} {fb : Nat → Nat} {s : Dk} {cs : List Chg} {W : World} (v : DkV o g m0 m1 m2 pv fb s cs W) (nm : ByteArray) (hs : nm.size ≤ 140737488351232) :
    Calls Tryz.prog 144 #[.pointer (some ⟨g, 0, none⟩), .string nm] W fun e W' => e = .returned (findV fb s.now nm.data.toList) ∧ W' = W := by
  obtain ⟨⟨_, _, _, _, _, c5, _⟩, _⟩ := cells_eight v.blk
  have hT := v.seen
  clear v
  cases ha : atN s.now nm.data.toList with
  | none =>
    have hl := look_none hT hs ha
    have F : Hid (findV fb s.now nm.data.toList = .tuple #[.pointer none, .int .i64 90]) := by unfold Hid findV; rw [ha]
    clear ha hT
    go_enter Tryz.func144, Tryz.ntmps144
    go_wp2_with fail
    go_ret2
    rw [F.out]
    exact ⟨rfl, rfl⟩
  | some k =>
    have hl := look_some hT hs ha
    have F : Hid (findV fb s.now nm.data.toList = .tuple #[.pointer (some ⟨fb k, 0, none⟩), .int .i64 0]) := by unfold Hid findV; rw [ha]
    clear ha hT
    go_enter Tryz.func144, Tryz.ntmps144
    go_wp2_with fail
    go_ret2
    rw [F.out]
    exact ⟨rfl, rfl⟩
/-- a new file's block -/
abbrev newB (W : World) (g i : Nat) : World := (W.setCell ⟨g, 4, none⟩ (.int .i64 ((i : Int) + 1))).alloc (.cells #[.int .i64 (i : Int), .slice none 0 0, .int .i64 0] 145)
set_option maxHeartbeats 1000000 in
theorem newFileC {o : Ow} {g m0 m1 m2 : Nat} {pv : Value} {fb : Nat → Nat} {s : Dk} {cs : List Chg} {W : World} (v : DkV o g m0 m1 m2 pv fb s cs W) (hb : s.data.length ≤ 1000000000) :
    Calls Tryz.prog 71 #[.pointer (some ⟨g, 0, none⟩)] W fun e W' => e = .returned (.pointer (some ⟨W.heap.size, 0, none⟩)) ∧ W' = newB W g s.data.length := by
  have hg := v.blk.2
  have hne : ¬ W.heap.size = g := by omega
  have hne2 : ¬ g = W.heap.size := by omega
  obtain ⟨⟨_, _, _, _, c4, _⟩, ⟨_, f4, _⟩⟩ := cells_eight v.blk
  generalize hd : s.data.length = n at c4 hb ⊢
  clear v hd
  go_enter Tryz.func71, Tryz.ntmps71
  go_wp2_with fail
  go_ret
  exact ⟨rfl, rfl⟩
end Go.Proofs.YtibjcofbhldenaaGreatDoor
namespace Go.Proofs.YtibjcofbhldenaaGreatDoor
open Go.ChangeShapes Go.WideShapes Go.ChangeAt Go.RowKit
theorem array9 {α : Type} {cs : Array α} (h : cs.size = 9) : ∃ c0 c1 c2 c3 c4 c5 c6 c7 c8, cs = #[c0, c1, c2, c3, c4, c5, c6, c7, c8] := by
  obtain ⟨l⟩ := cs
  match l, h with
  | [c0, c1, c2, c3, c4, c5, c6, c7, c8], _ => exact ⟨c0, c1, c2, c3, c4, c5, c6, c7, c8, rfl⟩
theorem list6 {α : Type} {xs : List α} (h : xs.length = 6) : ∃ c0 c1 c2 c3 c4 c5, xs = [c0, c1, c2, c3, c4, c5] := by
  match xs, h with
  | [c0, c1, c2, c3, c4, c5], _ => exact ⟨c0, c1, c2, c3, c4, c5, rfl⟩
/-- bytes in a slice whose form is known -/
theorem open_bytesS {H : Type} {enc : TypeId × Value → H} {W : World} {v : Value} {d : DataW H} {p : List MemPlace} (hform : ∃ a l c, v = .slice a l c) (h : DataW.Trod enc Tryz.prog W 0 (fun _ => true) true 57 v d p) :
    ∃ bs : List UInt8, HoldsB W v bs ∧ bs.length + 1 ≤ Rows.uptoBulk d := by
  obtain ⟨a0, len0, cap0, rfl⟩ := hform
  obtain ⟨fuel, hf⟩ := h
  rcases open_ints Tryz.underlying57 Tryz.underlying5 (by kernel_rfl) hf with ⟨hcs, hx⟩ | ⟨x, l, c, zs, hcs, _, hl, hm, hz, hx, hcell, hws⟩
  · simp [Value.cells] at hcs
    obtain ⟨rfl, rfl, rfl⟩ := hcs
    simp only [Prod.mk.injEq] at hx
    obtain ⟨rfl, _⟩ := hx
    exact ⟨[], ⟨none, 0, rfl, fun _ => rfl, Nat.le_refl _, fun h => absurd rfl h⟩, by simp [Rows.uptoBulk]⟩
  · simp [Value.cells] at hcs
    obtain ⟨rfl, rfl, rfl⟩ := hcs
    simp only [Prod.mk.injEq] at hx
    obtain ⟨hd, _⟩ := hx
    have hz' : zs.length = cap0 := by simpa using hz
    have hlen : ((zs.take len0).map (fun z : Int => UInt8.ofNat z.toNat)).length = len0 := by rw [List.length_map, List.length_take, Nat.min_eq_left (by omega)]
    refine ⟨(zs.take len0).map (fun z : Int => UInt8.ofNat z.toNat), ⟨some x, cap0, by rw [hlen], (fun e => by cases e), by omega, ?_⟩, ?_⟩
    · intro hne
      have hpos : 0 < len0 := by
        rcases Nat.eq_zero_or_pos len0 with h | h
        · subst h; simp at hne
        · exact h
      obtain ⟨b, off, rfl, hblt⟩ := addr_at (hcell 0 (by omega))
      refine ⟨b, off, rfl, hblt, fun j hj => ?_⟩
      rw [hlen] at hj
      have hc := hcell j (by omega)
      rw [Go.WideShapes.add_plain] at hc
      rw [hc]
      have hjz : j < zs.length := by omega
      simp only [List.getElem_map, List.getElem_take]
      rw [List.getD_eq_getElem?_getD, List.getElem?_eq_getElem hjz]
      have hw := hws _ (List.getElem_mem hjz)
      have hb : 0 ≤ zs[j] ∧ zs[j] < 256 := byte_wf hw
      show some (Value.int .u8 zs[j]) = some (B _)
      unfold B
      simp only [Option.some.injEq, Value.int.injEq, true_and]
      rw [UInt8.toNat_ofNat']
      omega
    · rw [hd, hlen]
      simp only [Rows.uptoBulk]
      rw [bulk_lits, List.length_take, Nat.min_eq_left (by omega)]
      omega
set_option maxRecDepth 100000 in
theorem open_entry {H : Type} {enc : TypeId × Value → H} {W : World} {base : Nat} {v : Value} {d : DataW H} {p : List MemPlace} (hok : Value.okWide Tryz.prog W .any base 59 v) (h : DataW.Trod enc Tryz.prog W 0 (fun _ => true) true 59 v d p) :
    ∃ (e : En) (lv bv : Value), v = entV e lv bv ∧ HoldsF W lv e.r.fs ∧ HoldsB W bv e.body ∧ e.key.length + e.vary.length + e.r.r.length + bulkF e.r.fs + e.body.length + 5 ≤ Rows.uptoBulk d := by
  obtain ⟨cs, rfl, hsz⟩ := okWide_struct Tryz.underlying59 hok
  have hC : Tryz.prog.cellsOf 59 = 9 := by kernel_rfl
  have k1 : Tryz.prog.cellsOf 9 = 1 := by kernel_rfl
  have k2 : Tryz.prog.cellsOf 56 = 4 := by kernel_rfl
  have k3 : Tryz.prog.cellsOf 57 = 1 := by kernel_rfl
  have k4 : Tryz.prog.cellsOf 3 = 1 := by kernel_rfl
  have k5 : Tryz.prog.cellsOf 54 = 1 := by kernel_rfl
  obtain ⟨c0, c1, c2, c3, c4, c5, c6, c7, c8, rfl⟩ := array9 (hsz.trans hC)
  obtain ⟨fuel, hf⟩ := h
  obtain ⟨xs, n, _, hx, _, hlen, hfl⟩ := DataW.trod_struct Tryz.underlying59 hf
  obtain ⟨y0, y1, y2, y3, y4, y5, rfl⟩ := list6 hlen
  have h0 := hfl 0 _ rfl
  have h1 := hfl 1 _ rfl
  have h2 := hfl 2 _ rfl
  have h3 := hfl 3 _ rfl
  have h4 := hfl 4 _ rfl
  have h5 := hfl 5 _ rfl
  simp [Value.cells, k1, k2, k3, k4] at h0 h1 h2 h3 h4 h5
  simp only [Prod.mk.injEq] at hx
  obtain ⟨rfl, _⟩ := hx
  obtain ⟨s0, e0, x0, _⟩ := DataW.trod_string Tryz.underlying9 h0
  obtain ⟨s1, e1, x1, _⟩ := DataW.trod_string Tryz.underlying9 h1
  obtain ⟨z0, z1, z2, z3, n2, hr, _, g0, g1, g2, g3⟩ := Joins.trod_struct4 Tryz.underlying56 h2
  simp [k1, k4, k5] at g0 g1 g2 g3
  obtain ⟨st, e2, x2, _⟩ := DataW.trod_int Tryz.underlying3 g0
  obtain ⟨s3, e3, x3, _⟩ := DataW.trod_string Tryz.underlying9 g1
  obtain ⟨mi, e4, x4, _⟩ := DataW.trod_int Tryz.underlying3 g2
  obtain ⟨fa, fl, fc, e5⟩ := Joins.slice_form Tryz.underlying54 g3
  obtain ⟨ba, bl, bc, e6⟩ := Joins.slice_form Tryz.underlying57 h3
  obtain ⟨as1, e7, x7, _⟩ := DataW.trod_int Tryz.underlying3 h4
  obtain ⟨gt, e8, x8, _⟩ := DataW.trod_int Tryz.underlying3 h5
  simp only [List.cons.injEq, and_true] at e0 e1 e2 e3 e4 e5 e6 e7 e8
  subst e0 e1 e2 e3 e4 e5 e6 e7 e8 x0 x1 x2 x3 x4 x7 x8
  obtain ⟨fs, hF, hb, _⟩ := open_fieldsS ⟨fa, fl, fc, rfl⟩ (⟨n2, g3⟩ : DataW.Trod enc Tryz.prog W 0 (fun _ => true) true 54 (.slice fa fl fc) z3.1 z3.2)
  obtain ⟨bs, hB, hb2⟩ := open_bytesS ⟨ba, bl, bc, rfl⟩ (⟨n, h3⟩ : DataW.Trod enc Tryz.prog W 0 (fun _ => true) true 57 (.slice ba bl bc) y3.1 y3.2)
  refine ⟨⟨s0.data.toList, s1.data.toList, ⟨st, s3.data.toList, mi, fs⟩, bs, as1, gt⟩, .slice fa fl fc, .slice ba bl bc, by unfold entV; rw [← ba_list, ← ba_list, ← ba_list], hF, hB, ?_⟩
  subst hr
  simp only [Rows.uptoBulk, Rows.uptoBulkAll, List.map_cons, List.map_nil]
  omega
end Go.Proofs.YtibjcofbhldenaaGreatDoor
namespace Go.Proofs.YtibjcofbhldenaaGreatDoor
open Go.RowKit
set_option maxRecDepth 20000 in
set_option maxHeartbeats 4000000 in
theorem copyEC (e : En) (lv bv : Value) (w : World) (hF : HoldsF w lv e.r.fs) (hB : HoldsB w bv e.body) (hl : e.r.fs.length ≤ 2000000) (hb : e.body.length ≤ 140737488355328) :
    Calls Tryz.prog 17 #[entV e lv bv] w fun x w' => ∃ lu bu, x = .returned (entV e lu bu) ∧ OwnF w lu e.r.fs w' ∧ Own w bu e.body w' := by
  obtain ⟨la, lc, _, _, e1, _⟩ := holdsF_parts hF
  obtain ⟨ba, bc, e2, _⟩ := holdsB_parts hB
  subst e1 e2
  unfold entV
  obtain ⟨key, vary, ⟨s, r, k, fs⟩, body, a0, g0⟩ := e
  dsimp only at *
  have b1 := below_alloc' w (.cells #[.string ⟨key.toArray⟩, .string ⟨vary.toArray⟩, .int .i64 s, .string ⟨r.toArray⟩, .int .i64 k, .slice la fs.length lc, .slice ba body.length bc, .int .i64 a0, .int .i64 g0] 59)
  have b2 := below_alloc' (w.alloc (.cells #[.string ⟨key.toArray⟩, .string ⟨vary.toArray⟩, .int .i64 s, .string ⟨r.toArray⟩, .int .i64 k, .slice la fs.length lc, .slice ba body.length bc, .int .i64 a0, .int .i64 g0] 59)) (.cells #[.string ⟨#[]⟩, .string ⟨#[]⟩, .int .i64 0, .string ⟨#[]⟩, .int .i64 0, .slice none 0 0, .slice none 0 0, .int .i64 0, .int .i64 0] 59)
  have q1 := cells_below (cells_lit w #[.string ⟨key.toArray⟩, .string ⟨vary.toArray⟩, .int .i64 s, .string ⟨r.toArray⟩, .int .i64 k, .slice la fs.length lc, .slice ba body.length bc, .int .i64 a0, .int .i64 g0] 59) b2
  have q2 := cells_lit (w.alloc (.cells #[.string ⟨key.toArray⟩, .string ⟨vary.toArray⟩, .int .i64 s, .string ⟨r.toArray⟩, .int .i64 k, .slice la fs.length lc, .slice ba body.length bc, .int .i64 a0, .int .i64 g0] 59)) #[.string ⟨#[]⟩, .string ⟨#[]⟩, .int .i64 0, .string ⟨#[]⟩, .int .i64 0, .slice none 0 0, .slice none 0 0, .int .i64 0, .int .i64 0] 59
  have z1 : (w.alloc (.cells #[.string ⟨key.toArray⟩, .string ⟨vary.toArray⟩, .int .i64 s, .string ⟨r.toArray⟩, .int .i64 k, .slice la fs.length lc, .slice ba body.length bc, .int .i64 a0, .int .i64 g0] 59)).heap.size = w.heap.size + 1 := by simp
  rw [z1] at q2
  obtain ⟨W2, hW2⟩ : ∃ W2, W2 = (w.alloc (.cells #[.string ⟨key.toArray⟩, .string ⟨vary.toArray⟩, .int .i64 s, .string ⟨r.toArray⟩, .int .i64 k, .slice la fs.length lc, .slice ba body.length bc, .int .i64 a0, .int .i64 g0] 59)).alloc (.cells #[.string ⟨#[]⟩, .string ⟨#[]⟩, .int .i64 0, .string ⟨#[]⟩, .int .i64 0, .slice none 0 0, .slice none 0 0, .int .i64 0, .int .i64 0] 59) := ⟨_, rfl⟩
  have HW2 := hide' hW2
  have zs : Hid (W2.heap.size = w.heap.size + 2) := by unfold Hid; rw [hW2]; simp
  rw [← hW2] at b2 q1 q2
  have B2 := hide' (bt' b1 b2)
  have Q2 : Hid (Blk w.heap.size W2 [.string ⟨key.toArray⟩, .string ⟨vary.toArray⟩, .int .i64 s, .string ⟨r.toArray⟩, .int .i64 k, .slice la fs.length lc, .slice ba body.length bc, .int .i64 a0, .int .i64 g0]) := q1
  have R2 : Hid (Blk (w.heap.size + 1) W2 [.string ⟨#[]⟩, .string ⟨#[]⟩, .int .i64 0, .string ⟨#[]⟩, .int .i64 0, .slice none 0 0, .slice none 0 0, .int .i64 0, .int .i64 0]) := q2
  have cC := hide' (copyRs s k r fs _ W2 (holdsF_mono hF B2.out) hl)
  have HB := hide' hB
  have HL := hide' hb
  obtain ⟨⟨c0, c1, c2, c3, c4, c5, c6, c7, c8⟩, -⟩ := cells_nine Q2.out
  clear b1 b2 q1 q2 z1 hW2 hF hB hl hb
  go_enter Tryz.func17, Tryz.ntmps17
  go_wp2_with fail
  rw [← HW2.out]
  refine cC.out.mono ?_
  rintro x w3 ⟨u, rfl, ho⟩
  obtain ⟨ua, uc, _, _, eu, _⟩ := holdsF_parts (holdsF_own ho)
  subst eu
  have Q3 : Hid (Blk w.heap.size w3 [.string ⟨key.toArray⟩, .string ⟨vary.toArray⟩, .int .i64 s, .string ⟨r.toArray⟩, .int .i64 k, .slice la fs.length lc, .slice ba body.length bc, .int .i64 a0, .int .i64 g0]) := cells_below Q2.out ho.2
  have R3 : Hid (Blk (w.heap.size + 1) w3 [.string ⟨#[]⟩, .string ⟨#[]⟩, .int .i64 0, .string ⟨#[]⟩, .int .i64 0, .slice none 0 0, .slice none 0 0, .int .i64 0, .int .i64 0]) := cells_below R2.out ho.2
  have B3 := hide' (bt' B2.out ho.2)
  have F3 := hide' ho.1
  clear ho cC Q2 R2 c0 c1 c2 c3 c4 c5 c6 c7 c8
  have Q4 : Hid (Blk w.heap.size (putFrom w.heap.size 2 w3 [.int .i64 s, .string ⟨r.toArray⟩, .int .i64 k, .slice ua fs.length uc]) [.string ⟨key.toArray⟩, .string ⟨vary.toArray⟩, .int .i64 s, .string ⟨r.toArray⟩, .int .i64 k, .slice ua fs.length uc, .slice ba body.length bc, .int .i64 a0, .int .i64 g0]) := cells_putFrom [.int .i64 s, .string ⟨r.toArray⟩, .int .i64 k, .slice ua fs.length uc] 2 w3 _ Q3.out (by simp)
  have B4 := hide' (put_below (w := w) (b := w.heap.size) (Nat.le_refl _) [.int .i64 s, .string ⟨r.toArray⟩, .int .i64 k, .slice ua fs.length uc] 2 _ B3.out)
  have R4 : Hid (Blk (w.heap.size + 1) (putFrom w.heap.size 2 w3 [.int .i64 s, .string ⟨r.toArray⟩, .int .i64 k, .slice ua fs.length uc]) [.string ⟨#[]⟩, .string ⟨#[]⟩, .int .i64 0, .string ⟨#[]⟩, .int .i64 0, .slice none 0 0, .slice none 0 0, .int .i64 0, .int .i64 0]) := by
    unfold Hid
    simp only [putFrom]
    exact cells_other (cells_other (cells_other (cells_other R3.out (by omega) _) (by omega) _) (by omega) _) (by omega) _
  have F4 := hide' (row_putFrom (b := w.heap.size) (by rw [zs.out]; omega) [.int .i64 s, .string ⟨r.toArray⟩, .int .i64 k, .slice ua fs.length uc] 2 _ F3.out)
  have sz4 : Hid ((putFrom w.heap.size 2 w3 [.int .i64 s, .string ⟨r.toArray⟩, .int .i64 k, .slice ua fs.length uc]).heap.size = w3.heap.size) := by unfold Hid; simp [putFrom]
  have s3 : Hid (w.heap.size + 2 ≤ w3.heap.size) := by unfold Hid; have h1 := R3.out.2; omega
  simp only [putFrom] at Q4 B4 R4 F4 sz4
  obtain ⟨⟨c0, c1, c2, c3, c4, c5, c6, c7, c8⟩, ⟨f0, f1, f2, f3, f4, f5, f6, f7, f8⟩⟩ := cells_nine Q3.out
  obtain ⟨⟨d0, d1, d2, d3, d4, d5, d6, d7, d8⟩, -⟩ := cells_nine Q4.out
  go_wp2_with fail
  clear c0 c1 c2 c3 c4 c5 c6 c7 c8 f0 f1 f2 f3 f4 f5 f6 f7 f8 d0 d1 d2 d3 d4 d5 d6 d7 d8
  generalize ((((w3.setCell ⟨w.heap.size, 2, none⟩ (.int .i64 s)).setCell ⟨w.heap.size, 3, none⟩ (.string ⟨r.toArray⟩)).setCell ⟨w.heap.size, 4, none⟩ (.int .i64 k)).setCell ⟨w.heap.size, 5, none⟩ (.slice ua fs.length uc)) = w4 at Q4 B4 R4 F4 sz4 ⊢
  refine (copyB _ body w4 (holdsB_mono HB.out B4.out) HL.out).mono ?_
  rintro x w5 ⟨v5, rfl, ho⟩
  obtain ⟨xa, xc, ev, _⟩ := holdsB_parts (holdsB_own ho)
  subst ev
  have Q5 : Hid (Blk w.heap.size w5 [.string ⟨key.toArray⟩, .string ⟨vary.toArray⟩, .int .i64 s, .string ⟨r.toArray⟩, .int .i64 k, .slice ua fs.length uc, .slice ba body.length bc, .int .i64 a0, .int .i64 g0]) := cells_below Q4.out ho.2
  have R5 : Hid (Blk (w.heap.size + 1) w5 [.string ⟨#[]⟩, .string ⟨#[]⟩, .int .i64 0, .string ⟨#[]⟩, .int .i64 0, .slice none 0 0, .slice none 0 0, .int .i64 0, .int .i64 0]) := cells_below R4.out ho.2
  have B5 := hide' (bt' B4.out ho.2)
  have F5 := hide' (row_below F4.out ho.2)
  have O5 := hide' ho.1
  have s4 : Hid (w.heap.size + 2 ≤ w4.heap.size) := by unfold Hid; rw [sz4.out]; exact s3.out
  clear ho Q4 R4 B4 F4 F3 Q3 R3 B3
  have Q6 : Hid (Blk w.heap.size (w5.setCell ⟨w.heap.size, 6, none⟩ (.slice xa body.length xc)) [.string ⟨key.toArray⟩, .string ⟨vary.toArray⟩, .int .i64 s, .string ⟨r.toArray⟩, .int .i64 k, .slice ua fs.length uc, .slice xa body.length xc, .int .i64 a0, .int .i64 g0]) := cells_set Q5.out (j := 6) (by simp) _
  have R6 := hide' (cells_other (o := 6) R5.out (show w.heap.size + 1 ≠ w.heap.size by omega) (.slice xa body.length xc))
  have B6 := hide' (B5.out.setCell (p := ⟨w.heap.size, 6, none⟩) (Nat.le_refl _) (.slice xa body.length xc))
  have F6 := hide' (row_putFrom (b := w.heap.size) (by rw [zs.out]; omega) [.slice xa body.length xc] 6 _ F5.out)
  have O6 := hide' (row_putFrom (b := w.heap.size) (by have := s4.out; omega) [.slice xa body.length xc] 6 _ O5.out)
  simp only [putFrom] at F6 O6
  obtain ⟨⟨c0, c1, c2, c3, c4, c5, c6, c7, c8⟩, ⟨f0, f1, f2, f3, f4, f5, f6, f7, f8⟩⟩ := cells_nine Q5.out
  obtain ⟨⟨d0, d1, d2, d3, d4, d5, d6, d7, d8⟩, -⟩ := cells_nine Q6.out
  obtain ⟨⟨h0, h1, h2, h3, h4, h5, h6, h7, h8⟩, ⟨i0, i1, i2, i3, i4, i5, i6, i7, i8⟩⟩ := cells_nine R6.out
  have zq := cells_put R6.out [.string ⟨key.toArray⟩, .string ⟨vary.toArray⟩, .int .i64 s, .string ⟨r.toArray⟩, .int .i64 k, .slice ua fs.length uc, .slice xa body.length xc, .int .i64 a0, .int .i64 g0] rfl
  have zb := put_below (w := w) (b := w.heap.size + 1) (Nat.le_succ _) [.string ⟨key.toArray⟩, .string ⟨vary.toArray⟩, .int .i64 s, .string ⟨r.toArray⟩, .int .i64 k, .slice ua fs.length uc, .slice xa body.length xc, .int .i64 a0, .int .i64 g0] 0 _ B6.out
  have rF := row_base (row_putFrom (b := w.heap.size + 1) (by rw [zs.out]; omega) [.string ⟨key.toArray⟩, .string ⟨vary.toArray⟩, .int .i64 s, .string ⟨r.toArray⟩, .int .i64 k, .slice ua fs.length uc, .slice xa body.length xc, .int .i64 a0, .int .i64 g0] 0 _ F6.out) B2.out.size
  have rO := row_base (row_putFrom (b := w.heap.size + 1) (by have := s4.out; omega) [.string ⟨key.toArray⟩, .string ⟨vary.toArray⟩, .int .i64 s, .string ⟨r.toArray⟩, .int .i64 k, .slice ua fs.length uc, .slice xa body.length xc, .int .i64 a0, .int .i64 g0] 0 _ O6.out) (show w.heap.size ≤ w4.heap.size by have := s4.out; omega)
  rw [put_nine] at zq zb rF rO
  have ZQ := hide' zq
  have FIN : Hid (∃ lu bu, Ending.returned (.agg #[.string ⟨key.toArray⟩, .string ⟨vary.toArray⟩, .int .i64 s, .string ⟨r.toArray⟩, .int .i64 k, .slice ua fs.length uc, .slice xa body.length xc, .int .i64 a0, .int .i64 g0]) = .returned (.agg #[.string ⟨key.toArray⟩, .string ⟨vary.toArray⟩, .int .i64 s, .string ⟨r.toArray⟩, .int .i64 k, lu, bu, .int .i64 a0, .int .i64 g0]) ∧ OwnF w lu fs _ ∧ Own w bu body _) := ⟨.slice ua fs.length uc, .slice xa body.length xc, rfl, ⟨rF, zb⟩, ⟨rO, zb⟩⟩
  clear zq zb rF rO
  go_wp2_with fail
  obtain ⟨⟨x0, x1, x2, x3, x4, x5, x6, x7, x8⟩, -⟩ := cells_nine ZQ.out
  exact bodyPost_ret (v := .agg #[.string ⟨key.toArray⟩, .string ⟨vary.toArray⟩, .int .i64 s, .string ⟨r.toArray⟩, .int .i64 k, .slice ua fs.length uc, .slice xa body.length xc, .int .i64 a0, .int .i64 g0]) (by simp [results, Tryz.results17, go_sem, x0, x1, x2, x3, x4, x5, x6, x7, x8]) rfl FIN.out
set_option maxRecDepth 20000 in
set_option maxHeartbeats 4000000 in
theorem sameEC (e : En) (lva lvb bva bvb : Value) (w : World) (hFa : HoldsF w lva e.r.fs) (hFb : HoldsF w lvb e.r.fs) (hBa : HoldsB w bva e.body) (hBb : HoldsB w bvb e.body) (hl : e.r.fs.length ≤ 2000000) (hb : e.body.length ≤ 1000000000000000) :
    Calls Tryz.prog 20 #[entV e lva bva, entV e lvb bvb] w fun x w' => x = .returned (.bool true) ∧ Below w.heap.size w w' := by
  have c1 := hide' (fun W (h : Below w.heap.size w W) => sameRs e.r.s e.r.k e.r.r e.r.fs lva lvb W (holdsF_mono hFa h) (holdsF_mono hFb h) hl)
  have c2 := hide' (fun W (h : Below w.heap.size w W) => sameBe bva bvb e.body W (holdsB_mono hBa h) (holdsB_mono hBb h) hb)
  obtain ⟨la, lc, _, _, e1, _⟩ := holdsF_parts hFa
  obtain ⟨lb, ld, _, _, e2, _⟩ := holdsF_parts hFb
  obtain ⟨ba, bc, e3, _⟩ := holdsB_parts hBa
  obtain ⟨bb, bd, e4, _⟩ := holdsB_parts hBb
  subst e1 e2 e3 e4
  unfold entV
  obtain ⟨key, vary, ⟨s, r, k, fs⟩, body, a0, g0⟩ := e
  dsimp only at *
  have b1 := below_alloc' w (.cells #[.string ⟨key.toArray⟩, .string ⟨vary.toArray⟩, .int .i64 s, .string ⟨r.toArray⟩, .int .i64 k, .slice la fs.length lc, .slice ba body.length bc, .int .i64 a0, .int .i64 g0] 59)
  have b2 := below_alloc' (w.alloc (.cells #[.string ⟨key.toArray⟩, .string ⟨vary.toArray⟩, .int .i64 s, .string ⟨r.toArray⟩, .int .i64 k, .slice la fs.length lc, .slice ba body.length bc, .int .i64 a0, .int .i64 g0] 59)) (.cells #[.string ⟨key.toArray⟩, .string ⟨vary.toArray⟩, .int .i64 s, .string ⟨r.toArray⟩, .int .i64 k, .slice lb fs.length ld, .slice bb body.length bd, .int .i64 a0, .int .i64 g0] 59)
  have q1 := cells_below (cells_lit w #[.string ⟨key.toArray⟩, .string ⟨vary.toArray⟩, .int .i64 s, .string ⟨r.toArray⟩, .int .i64 k, .slice la fs.length lc, .slice ba body.length bc, .int .i64 a0, .int .i64 g0] 59) b2
  have q2 := cells_lit (w.alloc (.cells #[.string ⟨key.toArray⟩, .string ⟨vary.toArray⟩, .int .i64 s, .string ⟨r.toArray⟩, .int .i64 k, .slice la fs.length lc, .slice ba body.length bc, .int .i64 a0, .int .i64 g0] 59)) #[.string ⟨key.toArray⟩, .string ⟨vary.toArray⟩, .int .i64 s, .string ⟨r.toArray⟩, .int .i64 k, .slice lb fs.length ld, .slice bb body.length bd, .int .i64 a0, .int .i64 g0] 59
  have z1 : (w.alloc (.cells #[.string ⟨key.toArray⟩, .string ⟨vary.toArray⟩, .int .i64 s, .string ⟨r.toArray⟩, .int .i64 k, .slice la fs.length lc, .slice ba body.length bc, .int .i64 a0, .int .i64 g0] 59)).heap.size = w.heap.size + 1 := by simp
  rw [z1] at q2
  have B2 := hide' (bt' b1 b2)
  have Q2 := hide' q1
  have R2 := hide' q2
  clear b1 b2 q1 q2 z1 hFa hFb hBa hBb hl hb
  go_enter Tryz.func20, Tryz.ntmps20
  go_wp2_with fail
  refine (c1.out _ B2.out).mono ?_
  rintro x w3 ⟨rfl, b3⟩
  have B3 := hide' (bt' B2.out b3)
  have Q3 : Hid (Blk w.heap.size w3 [.string ⟨key.toArray⟩, .string ⟨vary.toArray⟩, .int .i64 s, .string ⟨r.toArray⟩, .int .i64 k, .slice la fs.length lc, .slice ba body.length bc, .int .i64 a0, .int .i64 g0]) := cells_below Q2.out b3
  have R3 : Hid (Blk (w.heap.size + 1) w3 [.string ⟨key.toArray⟩, .string ⟨vary.toArray⟩, .int .i64 s, .string ⟨r.toArray⟩, .int .i64 k, .slice lb fs.length ld, .slice bb body.length bd, .int .i64 a0, .int .i64 g0]) := cells_below R2.out b3
  clear b3 Q2 R2
  obtain ⟨⟨c0, c1', c2', c3, c4, c5, c6, c7, c8⟩, -⟩ := cells_nine Q3.out
  obtain ⟨⟨d0, d1, d2, d3, d4, d5, d6, d7, d8⟩, -⟩ := cells_nine R3.out
  go_wp2_with fail
  clear c0 c1' c2' c3 c4 c5 c6 c7 c8 d0 d1 d2 d3 d4 d5 d6 d7 d8
  refine (c2.out _ B3.out).mono ?_
  rintro x w4 ⟨rfl, b4⟩
  have B4 := hide' (bt' B3.out b4)
  obtain ⟨⟨c0, c1', c2', c3, c4, c5, c6, c7, c8⟩, -⟩ := cells_nine (show Blk w.heap.size w4 [.string ⟨key.toArray⟩, .string ⟨vary.toArray⟩, .int .i64 s, .string ⟨r.toArray⟩, .int .i64 k, .slice la fs.length lc, .slice ba body.length bc, .int .i64 a0, .int .i64 g0] from cells_below Q3.out b4)
  obtain ⟨⟨d0, d1, d2, d3, d4, d5, d6, d7, d8⟩, -⟩ := cells_nine (show Blk (w.heap.size + 1) w4 [.string ⟨key.toArray⟩, .string ⟨vary.toArray⟩, .int .i64 s, .string ⟨r.toArray⟩, .int .i64 k, .slice lb fs.length ld, .slice bb body.length bd, .int .i64 a0, .int .i64 g0] from cells_below R3.out b4)
  clear b4 Q3 R3
  go_wp2_with fail
  go_ret
  exact ⟨rfl, B4.out⟩
end Go.Proofs.YtibjcofbhldenaaGreatDoor
namespace Go.Proofs.YtibjcofbhldenaaGreatDoor
open Go.RowKit
/-- a record as a value -/
def recV (seq op no : Int) (id : List UInt8) : Value := .agg #[.int .i64 seq, .int .i64 op, .int .i64 no, .string ⟨id.toArray⟩]
theorem enc_bad1 {seq op no : Int} {id : List UInt8} (h : decide (op = 1 ∨ op = 2) = false) : encOf seq op no id = ([], 100) := by
  unfold encOf; rw [if_neg (fun g => (of_decide_eq_false h) g.1)]
theorem enc_bad2 {seq op no : Int} {id : List UInt8} (h : decide (0 ≤ seq ∧ seq ≤ 4294967295) = false) : encOf seq op no id = ([], 100) := by
  unfold encOf; rw [if_neg (fun g => (of_decide_eq_false h) g.2.1)]
theorem enc_bad3 {seq op no : Int} {id : List UInt8} (h : decide (0 ≤ no ∧ no ≤ 4294967295) = false) : encOf seq op no id = ([], 100) := by
  unfold encOf; rw [if_neg (fun g => (of_decide_eq_false h) g.2.2)]
theorem enc_ok {seq op no : Int} {id : List UInt8} (h1 : decide (op = 1 ∨ op = 2) = true) (h2 : decide (0 ≤ seq ∧ seq ≤ 4294967295) = true) (h3 : decide (0 ≤ no ∧ no ≤ 4294967295) = true) :
    encOf seq op no id = if id.length ≤ 4096 then (recL op.toNat seq.toNat no.toNat id, 0) else ([], 101) := by
  unfold encOf; rw [if_pos ⟨of_decide_eq_true h1, of_decide_eq_true h2, of_decide_eq_true h3⟩]
/-- a text's bytes appended -/
theorem appTxt {ops : Array Oper} {rest : List Oper} {o : Oper} {a : Act} {Q : Exit → Act → World → Prop} {wr : World} (hgd : o.guard = none) (s z : Operand)
    (ho : o.op = .call { callee := .builtin .append, args := #[s, z], argTypes := #[57, 9] }) (w0 : World) (v : Value) (ps : List UInt8) (hs : a.eval s = v) (hown : Own w0 v ps wr)
    (q : List UInt8) (hz : a.eval z = .string ⟨q.toArray⟩) (hlen : ps.length + q.length ≤ 140737488355328)
    (h : ∀ v' w', Own w0 v' (ps ++ q) w' → wpList Tryz.prog ops Q rest (a.put o.dst v') w') : wpList Tryz.prog ops Q (o :: rest) a wr := by
  obtain ⟨i0, hi, hz0, hz1, hz2⟩ := info_parts Tryz.info5
  have hsz := hown.2.size
  have hq : (⟨q.toArray⟩ : ByteArray).size = q.length := size_l q
  have hc : Lib.strCells ⟨q.toArray⟩ = q.map B := by unfold Lib.strCells B; simp
  refine Lib.wpList_append_own_string _ hgd s z 57 9 ho w0.heap.size 5 i0 Tryz.underlying57 Tryz.underlying9 hi hz0 hz1 hz2 v ps.length (ps.map B) hs hown.1 ⟨q.toArray⟩ hz (by rw [hq]; unfold maxLen; omega) (by rw [hq]; exact hlen) hsz ?_
  intro v' w' h1 h2 _
  rw [hq, hc] at h1
  refine h v' w' ⟨by rw [List.map_append, List.length_append]; exact h1, ?_⟩
  refine Below.grown hown.2 h2 (by omega) ?_
  intro k hk
  exact (hown.1.lt k hk).1
theorem makeN (w : World) (n : Nat) (hn : n ≤ 1000000) : (Instr.makeSlice 57 (.int .i64 0) (.int .i64 (n : Int))).run Tryz.prog w = .ok (.slice (some ⟨w.heap.size, 0, none⟩) 0 n) (w.alloc (.cells (madeCells #[.int .u8 0] n) 5)) := by
  obtain ⟨i0, hi, hz0, hz1, hz2⟩ := info_parts Tryz.info5
  have h := run_make (P := Tryz.prog) w 57 5 i0 (.int .u8 0) Tryz.underlying57 hi hz0 .i64 .i64 0 n (by omega) (by omega) (by rw [hz2]; omega) (by omega)
  rw [hz1] at h
  rw [show (Value.int .u8 0).cells = #[Value.int .u8 0] from rfl] at h
  simpa using h
theorem own_made (w : World) (n : Nat) (hn : n ≤ 1000000) : Own w (.slice (some ⟨w.heap.size, 0, none⟩) 0 n) [] (w.alloc (.cells (madeCells #[.int .u8 0] n) 5)) :=
  ⟨World.ownsRow_made w _ n (Nat.le_refl _) (by unfold maxLen; omega) (by rw [size_madeCells]; omega), (Below.refl _ _).alloc (Nat.le_refl _) _⟩
set_option maxRecDepth 20000 in
set_option maxHeartbeats 4000000 in
theorem encC (seq op no : Int) (id : List UInt8) (w : World) (hi : id.length ≤ 1000000000000000) :
    Calls Tryz.prog 95 #[recV seq op no id] w fun e w' => ∃ u, e = .returned (.tuple #[u, .int .i64 (encOf seq op no id).2]) ∧ Own w u (encOf seq op no id).1 w' := by
  have hsz : Hid ((⟨id.toArray⟩ : ByteArray).size = id.length) := size_l id
  obtain ⟨R, hR⟩ : ∃ R, R = encOf seq op no id := ⟨_, rfl⟩
  rw [← hR]
  obtain ⟨b1, hb1⟩ : ∃ b, b = decide (op = 1 ∨ op = 2) := ⟨_, rfl⟩
  obtain ⟨b2, hb2⟩ : ∃ b, b = decide (0 ≤ seq ∧ seq ≤ 4294967295) := ⟨_, rfl⟩
  obtain ⟨b3, hb3⟩ : ∃ b, b = decide (0 ≤ no ∧ no ≤ 4294967295) := ⟨_, rfl⟩
  have H1 := hide' hb1
  have H2 := hide' hb2
  have H3 := hide' hb3
  have HR := hide' hR
  have c1 : ∀ W, Hid (Calls Tryz.prog 138 #[.int .i64 op] W fun e w' => e = .returned (.bool b1) ∧ w' = W) := fun W => by unfold Hid; rw [hb1]; exact isOpC op W
  have c2 : ∀ W, Hid (Calls Tryz.prog 139 #[.int .i64 seq] W fun e w' => e = .returned (.bool b2) ∧ w' = W) := fun W => by unfold Hid; rw [hb2]; exact fitsC seq W
  have c3 : ∀ W, Hid (Calls Tryz.prog 139 #[.int .i64 no] W fun e w' => e = .returned (.bool b3) ∧ w' = W) := fun W => by unfold Hid; rw [hb3]; exact fitsC no W
  clear hb1 hb2 hb3 hR
  unfold recV
  obtain ⟨B0, hB0⟩ : ∃ B0, B0 = w.alloc (.cells #[.int .i64 seq, .int .i64 op, .int .i64 no, .string ⟨id.toArray⟩] 107) := ⟨_, rfl⟩
  have Q0 := quad_lit w (.int .i64 seq) (.int .i64 op) (.int .i64 no) (.string ⟨id.toArray⟩) 107
  have L0 := below_alloc' w (.cells #[.int .i64 seq, .int .i64 op, .int .i64 no, .string ⟨id.toArray⟩] 107)
  have HB0 := hide' hB0
  rw [← hB0] at Q0 L0
  have LB := hide' L0
  have HQ := hide' Q0
  clear hB0 L0 Q0
  go_enter Tryz.func95, Tryz.ntmps95
  go_wp2_with fail
  rw [← HB0.out]
  obtain ⟨q0, q1, q2, q3, -, -, -, -, qz⟩ := HQ.out
  refine (c1 B0).out.mono ?_
  rintro e w9 ⟨rfl, ew⟩
  rw [ew]; clear ew w9
  cases b1 with
  | false =>
    have eR : Hid (R = ([], 100)) := by unfold Hid; rw [HR.out]; exact enc_bad1 H1.out.symm
    go_wp2_with fail
    exact bodyPost_ret (v := .tuple #[.slice none 0 0, .int .i64 100]) (by simp [results, Tryz.results95, go_sem]) rfl ⟨.slice none 0 0, by rw [eR.out], by rw [eR.out]; exact own_nil w _ LB.out⟩
  | true =>
  go_wp2_with fail
  refine (c2 B0).out.mono ?_
  rintro e w9 ⟨rfl, ew⟩
  rw [ew]; clear ew w9
  cases b2 with
  | false =>
    have eR : Hid (R = ([], 100)) := by unfold Hid; rw [HR.out]; exact enc_bad2 H2.out.symm
    go_wp2_with fail
    exact bodyPost_ret (v := .tuple #[.slice none 0 0, .int .i64 100]) (by simp [results, Tryz.results95, go_sem]) rfl ⟨.slice none 0 0, by rw [eR.out], by rw [eR.out]; exact own_nil w _ LB.out⟩
  | true =>
  go_wp2_with fail
  refine (c3 B0).out.mono ?_
  rintro e w9 ⟨rfl, ew⟩
  rw [ew]; clear ew w9
  cases b3 with
  | false =>
    have eR : Hid (R = ([], 100)) := by unfold Hid; rw [HR.out]; exact enc_bad3 H3.out.symm
    go_wp2_with fail
    exact bodyPost_ret (v := .tuple #[.slice none 0 0, .int .i64 100]) (by simp [results, Tryz.results95, go_sem]) rfl ⟨.slice none 0 0, by rw [eR.out], by rw [eR.out]; exact own_nil w _ LB.out⟩
  | true =>
  obtain ⟨n, hn⟩ : ∃ n, n = id.length := ⟨_, rfl⟩
  have SZ : (⟨id.toArray⟩ : ByteArray).size = n := by rw [hsz.out, hn]
  have hnl : n ≤ 1000000000000000 := by omega
  by_cases hlong : n ≤ 4096
  · have eR : Hid (R = (recL op.toNat seq.toNat no.toNat id, 0)) := by
      unfold Hid; rw [HR.out, enc_ok H1.out.symm H2.out.symm H3.out.symm, if_pos (by omega)]
    obtain ⟨s1, hs1⟩ : ∃ s1 : Nat, (s1 : Int) = seq := ⟨seq.toNat, by have := of_decide_eq_true H2.out.symm; omega⟩
    obtain ⟨n1, hn1⟩ : ∃ n1 : Nat, (n1 : Int) = no := ⟨no.toNat, by have := of_decide_eq_true H3.out.symm; omega⟩
    have hop : op = 1 ∨ op = 2 := of_decide_eq_true H1.out.symm
    have hor : bits .or .i64 192 op = 192 + op := by rcases hop with rfl | rfl <;> decide
    have hc : Hid (((UInt8.ofNat (192 + op.toNat)).toNat : Int) = 192 + op) := by unfold Hid; rw [ofNat_mod]; omega
    have eL : Hid (recL op.toNat seq.toNat no.toNat id = ((((([] ++ [UInt8.ofNat (192 + op.toNat)]) ++ beN 2 n) ++ beN 4 s1) ++ beN 4 n1) ++ id) ++ beN 4 (sumOf (((((([] ++ [UInt8.ofNat (192 + op.toNat)]) ++ beN 2 n) ++ beN 4 s1) ++ beN 4 n1) ++ id)))) := by
      unfold Hid recL
      have e : recB op.toNat seq.toNat no.toNat id = ((((([] ++ [UInt8.ofNat (192 + op.toNat)]) ++ beN 2 n) ++ beN 4 s1) ++ beN 4 n1) ++ id) := by
        unfold recB
        rw [hn, show seq.toNat = s1 by omega, show no.toNat = n1 by omega]
        simp [List.append_assoc]
      rw [e]
    have hopi : 1 ≤ op ∧ op ≤ 2 := by omega
    have SL : Hid (s1 < 4503599627370496 ∧ n1 < 4503599627370496) := by
      unfold Hid; have := of_decide_eq_true H2.out.symm; have := of_decide_eq_true H3.out.symm; omega
    generalize UInt8.ofNat (192 + op.toNat) = c at hc eL
    have l1 : Hid (([] ++ [c]).length = 1) := rfl
    have l2 : Hid ((([] ++ [c]) ++ beN 2 n).length = 3) := by unfold Hid; simp [beN_len]
    have l3 : Hid (((([] ++ [c]) ++ beN 2 n) ++ beN 4 s1).length = 7) := by unfold Hid; simp [beN_len]
    have l4 : Hid ((((([] ++ [c]) ++ beN 2 n) ++ beN 4 s1) ++ beN 4 n1).length = 11) := by unfold Hid; simp [beN_len]
    have l5 : Hid (((((([] ++ [c]) ++ beN 2 n) ++ beN 4 s1) ++ beN 4 n1) ++ id).length = 11 + n) := by unfold Hid; simp [beN_len, hn]; omega
    have lid : Hid (id.length = n) := hn.symm
    have hmk := makeN B0 (n + 15) (by omega)
    have om := own_made B0 (n + 15) (by omega)
    have en : ((n + 15 : Nat) : Int) = 11 + (n : Int) + 4 := by omega
    rw [en] at hmk
    obtain ⟨B1, hB1⟩ : ∃ B1, B1 = B0.alloc (.cells (madeCells #[.int .u8 0] (n + 15)) 5) := ⟨_, rfl⟩
    rw [← hB1] at hmk om
    obtain ⟨x0, x1, x2, x3, -, -, -, -, xz⟩ := quad_below HQ.out om.2
    have OM := hide' om
    rw [← hs1] at q0 x0
    rw [← hn1] at q2 x2
    have HS1 := hide' hs1.symm
    have HN1 := hide' hn1.symm
    clear hB1 om en hn hs1 hn1 hop
    have hd : decide (4096 < (n : Int)) = false := by simp; omega
    go_wp2_with (at_builtin; refine app1 rfl (.tmp 31) (.tmp 36) rfl B0 _ [] rfl OM.out c (by have := hc.out; omega) rfl (by simp) ?_; intro v2 w2 ho2; obtain ⟨y0, y1, y2, y3, -, -, -, -, yz⟩ := quad_below HQ.out ho2.2; have O2 := hide' ho2; clear ho2)
    clear x0 x1 x2 x3 xz q0 q1 q2 q3 qz hmk OM
    go_wp2_with fail
    refine (appendNumberC v2 ([] ++ [c]) B0 w2 n 2 O2.out (by decide) (by rw [l1.out]; decide)).mono ?_
    rintro e w3 ⟨v3, rfl, ho3⟩
    obtain ⟨z0, z1, z2, z3, -, -, -, -, zz⟩ := quad_below HQ.out ho3.2
    rw [HS1.out] at z0
    have O3 := hide' ho3
    clear ho3 y0 y1 y2 y3 yz O2
    go_wp2_with fail
    refine (appendNumberC v3 _ B0 w3 s1 4 O3.out (by decide) (by rw [l2.out]; decide)).mono ?_
    rintro e w4 ⟨v4, rfl, ho4⟩
    obtain ⟨y0, y1, y2, y3, -, -, -, -, yz⟩ := quad_below HQ.out ho4.2
    rw [HN1.out] at y2
    have O4 := hide' ho4
    clear ho4 z0 z1 z2 z3 zz O3
    go_wp2_with fail
    refine (appendNumberC v4 _ B0 w4 n1 4 O4.out (by decide) (by rw [l3.out]; decide)).mono ?_
    rintro e w5 ⟨v5, rfl, ho5⟩
    obtain ⟨z0, z1, z2, z3, -, -, -, -, zz⟩ := quad_below HQ.out ho5.2
    have O5 := hide' ho5
    clear ho5 y0 y1 y2 y3 yz O4
    go_wp2_with (at_builtin; refine appTxt rfl (.tmp 51) (.tmp 53) rfl B0 _ _ rfl O5.out id rfl (by rw [l4.out, lid.out]; omega) ?_; intro v6 w6 ho6)
    have O6 := hide' ho6
    have S6 := hide' (holdsB_own ho6)
    clear ho6 z0 z1 z2 z3 zz O5
    generalize ((((([] ++ [c]) ++ beN 2 n) ++ beN 4 s1) ++ beN 4 n1) ++ id) = L5 at O6 S6 l5 eL
    go_wp2_with fail
    refine (sumC v6 L5 w6 S6.out (by rw [l5.out]; omega)).mono ?_
    rintro e w9 ⟨rfl, ew⟩
    rw [ew]; clear ew w9
    go_wp2_with fail
    refine (appendNumberC v6 L5 B0 w6 (sumOf L5) 4 O6.out (by decide) (by rw [l5.out]; omega)).mono ?_
    rintro e w7 ⟨v7, rfl, ho7⟩
    have O7 := hide' ho7
    clear ho7
    go_wp2_with fail
    exact bodyPost_ret (v := .tuple #[v7, .int .i64 0]) (by simp [results, Tryz.results95, go_sem]) rfl ⟨v7, by rw [eR.out], by rw [eR.out, eL.out]; exact own_base O7.out LB.out⟩
  · have eR : Hid (R = ([], 101)) := by unfold Hid; rw [HR.out, enc_ok H1.out.symm H2.out.symm H3.out.symm, if_neg (by omega)]
    have hd : decide (4096 < (n : Int)) = true := by simp; omega
    clear hn
    go_wp2_with fail
    exact bodyPost_ret (v := .tuple #[.slice none 0 0, .int .i64 101]) (by simp [results, Tryz.results95, go_sem]) rfl ⟨.slice none 0 0, by rw [eR.out], by rw [eR.out]; exact own_nil w _ LB.out⟩
end Go.Proofs.YtibjcofbhldenaaGreatDoor
