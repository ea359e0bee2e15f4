/- The contracts of the store's read and Get. Plain: what a Put does to a store on a disk without faults: refused, all is as it was; done, its entry is there. -/
import Derived.Test.YtibjcofbhldenaaGreatDoorZ39
import Derived.Test.YtibjcofbhldenaaGreatDoorZ41
import Derived.Test.YtibjcofbhldenaaGreatDoorZ42
namespace Go.Proofs.YtibjcofbhldenaaGreatDoor
open Go.RowKit Go.Maps
/-- a block of nine cells, whatever they hold, above w -/
def NinB (w : World) (b : Nat) (W : World) : Prop := (∃ u0 u1 u2 u3 u4 u5 u6 u7 u8, Blk b W [u0, u1, u2, u3, u4, u5, u6, u7, u8]) ∧ Below w.heap.size w W ∧ w.heap.size ≤ b
theorem nin_below {w : World} {b : Nat} {W W' : World} (h : NinB w b W) (hb : Below W.heap.size W W') : NinB w b W' := by
  obtain ⟨⟨u0, u1, u2, u3, u4, u5, u6, u7, u8, h1⟩, h2, h3⟩ := h
  exact ⟨⟨u0, u1, u2, u3, u4, u5, u6, u7, u8, cells_below h1 hb⟩, h2.trans (hb.mono h2.size), h3⟩
theorem nin_store {w : World} {b : Nat} {W : World} (h : NinB w b W) (v0 v1 v2 v3 v4 v5 v6 v7 v8 : Value) (X : World) (hX : X = (((((((((W.setCell ⟨b, 0, none⟩ v0).setCell ⟨b, 1, none⟩ v1).setCell ⟨b, 2, none⟩ v2).setCell ⟨b, 3, none⟩ v3).setCell ⟨b, 4, none⟩ v4).setCell ⟨b, 5, none⟩ v5).setCell ⟨b, 6, none⟩ v6).setCell ⟨b, 7, none⟩ v7).setCell ⟨b, 8, none⟩ v8)) :
    (X.cell? ⟨b, 0, none⟩ = some v0 ∧ X.cell? ⟨b, 1, none⟩ = some v1 ∧ X.cell? ⟨b, 2, none⟩ = some v2 ∧ X.cell? ⟨b, 3, none⟩ = some v3 ∧ X.cell? ⟨b, 4, none⟩ = some v4 ∧ X.cell? ⟨b, 5, none⟩ = some v5 ∧ X.cell? ⟨b, 6, none⟩ = some v6 ∧ X.cell? ⟨b, 7, none⟩ = some v7 ∧ X.cell? ⟨b, 8, none⟩ = some v8) ∧ Below w.heap.size w X ∧ X = putFrom b 0 W [v0, v1, v2, v3, v4, v5, v6, v7, v8] := by
  obtain ⟨⟨u0, u1, u2, u3, u4, u5, u6, u7, u8, h1⟩, h2, h3⟩ := h
  have g1 := cells_put h1 [v0, v1, v2, v3, v4, v5, v6, v7, v8] rfl
  have g2 := put_below h3 [v0, v1, v2, v3, v4, v5, v6, v7, v8] 0 W h2
  have e : putFrom b 0 W [v0, v1, v2, v3, v4, v5, v6, v7, v8] = X := by rw [hX]; rfl
  rw [e] at g1 g2
  exact ⟨(cells_nine g1).1, g2, e.symm⟩
/-- the entry in the file of a number -/
def rdS (s : Dk) (no : Int) : En × Bool := if (s.read (nameN no)).2 = 0 then ((decO (s.read (nameN no)).1).1, decide ((decO (s.read (nameN no)).1).2 = 0)) else (En.zero, false)
def RdPostS (W : World) (q : En × Bool) (x : Ending) (W' : World) : Prop := ∃ lv bv, x = .returned (.tuple #[entV q.1 lv bv, .bool q.2]) ∧ OwnF W lv q.1.r.fs W' ∧ Own W bv q.1.body W'
theorem ownF_put {w1 w2 w3 : World} {b : Nat} {lv : Value} {fs : FL} (h : OwnF w2 lv fs w3) (hb : b < w2.heap.size) (h1 : Below w1.heap.size w1 w2) (hle : w1.heap.size ≤ b) (vs : List Value) : OwnF w1 lv fs (putFrom b 0 w3 vs) := by
  have h2 : (putFrom b 0 w3 vs).ownsRow w2.heap.size 208 2 lv fs.length (cellsF fs) := row_putFrom hb vs 0 w3 h.1
  refine ⟨row_base h2 h1.size, put_below hle vs 0 w3 (h1.trans (h.2.mono h1.size))⟩
theorem own_putB {w1 w2 w3 : World} {b : Nat} {lv : Value} {bs : List UInt8} (h : Own w2 lv bs w3) (hb : b < w2.heap.size) (h1 : Below w1.heap.size w1 w2) (hle : w1.heap.size ≤ b) (vs : List Value) : Own w1 lv bs (putFrom b 0 w3 vs) := by
  have h2 : (putFrom b 0 w3 vs).ownsRow w2.heap.size 5 1 lv bs.length (bs.map B) := row_putFrom hb vs 0 w3 h.1
  refine ⟨row_base h2 h1.size, put_below hle vs 0 w3 (h1.trans (h.2.mono h1.size))⟩
set_option maxRecDepth 20000
set_option maxHeartbeats 4000000
theorem readSC {o : Ow} {g lb sb tm : Nat} {slots : Int} {s : Dk} {c : Int} {t : NL} {W : World} (h : StoS o g lb sb tm slots s c t W) (hB : Bd 90000000 s) (no : Int) (E : Env W) (T : Tab W) :
    Calls Tryz.prog 79 #[lptr sb, .int .i64 no] W fun x W' => RdPostS W (rdS s no) x W' := by
  have bz := below_alloc' W (.cells #[.string ⟨#[]⟩, .string ⟨#[]⟩, .int .i64 0, .string ⟨#[]⟩, .int .i64 0, .slice none 0 0, .slice none 0 0, .int .i64 0, .int .i64 0] 59)
  have NZ : Hid (NinB W W.heap.size (W.alloc (.cells #[.string ⟨#[]⟩, .string ⟨#[]⟩, .int .i64 0, .string ⟨#[]⟩, .int .i64 0, .slice none 0 0, .slice none 0 0, .int .i64 0, .int .i64 0] 59))) := ⟨⟨_, _, _, _, _, _, _, _, _, cells_lit W #[.string ⟨#[]⟩, .string ⟨#[]⟩, .int .i64 0, .string ⟨#[]⟩, .int .i64 0, .slice none 0 0, .slice none 0 0, .int .i64 0, .int .i64 0] 59⟩, bz, Nat.le_refl _⟩
  have z0 : (W.alloc (.cells #[.string ⟨#[]⟩, .string ⟨#[]⟩, .int .i64 0, .string ⟨#[]⟩, .int .i64 0, .slice none 0 0, .slice none 0 0, .int .i64 0, .int .i64 0] 59)).heap.size = W.heap.size + 1 := by simp
  obtain ⟨W0, hW0⟩ : ∃ W0, W0 = W.alloc (.cells #[.string ⟨#[]⟩, .string ⟨#[]⟩, .int .i64 0, .string ⟨#[]⟩, .int .i64 0, .slice none 0 0, .slice none 0 0, .int .i64 0, .int .i64 0] 59) := ⟨_, rfl⟩
  have HW0 := hide' hW0
  rw [← hW0] at bz NZ z0
  have Z0 := hide' z0
  have H := hide' (stoS_below h bz)
  have kP := hide' (fun W' (hb : Below W0.heap.size W0 W') => (pathC no W').mono (R' := fun e w' => e = .returned (.string (pathB no)) ∧ Hid (Below W0.heap.size W0 w') ∧ w'.cell? ⟨sb, 0, none⟩ = some (lptr g)) (by
    rintro e w' ⟨rfl, hb'⟩
    have h1 := hb.trans (hb'.mono hb.size)
    exact ⟨rfl, h1, (stoS_cells (stoS_below H.out h1)).1⟩))
  have kR := hide' (fun W' (hb : Below W0.heap.size W0 W') => (readC (stoS_below H.out hb).log.dsk (pathB no) (path_size _) (bd_mono hB (by omega))).mono (R' := fun e w' => ∃ va vc, e = .returned (.tuple #[.slice va (s.read (nameN no)).1.length vc, .int .i64 (s.read (nameN no)).2]) ∧ Hid (Own W0 (.slice va (s.read (nameN no)).1.length vc) (s.read (nameN no)).1 w') ∧ w'.cell? ⟨sb, 0, none⟩ = some (lptr g)) (by
    rintro e w' ⟨v, rfl, ho⟩
    obtain ⟨va, vc, hv⟩ := row_sl ho.1
    subst hv
    exact ⟨va, vc, rfl, own_base ho hb, (stoS_cells (stoS_below H.out (hb.trans (ho.2.mono hb.size)))).1⟩))
  have RD : Hid (rdS s no = if (s.read (nameN no)).2 = 0 then ((decO (s.read (nameN no)).1).1, decide ((decO (s.read (nameN no)).1).2 = 0)) else (En.zero, false)) := rfl
  have hrl : (s.read (nameN no)).1.length ≤ 90000000 := by
    unfold Dk.read
    split
    · simp
    · split
      · simp
      · split
        · simp
        · exact hB.2.2.2.2.2 _
  have HE := hide' E
  have HT := hide' T
  have BZ := hide' bz
  obtain ⟨c0, -⟩ := stoS_cells H.out
  rw [hW0] at c0
  generalize pathB no = pb at kP kR
  generalize s.read (nameN no) = rr at kR RD hrl
  obtain ⟨bs, re⟩ := rr
  simp only at kR RD hrl
  clear h hB bz E T hW0 z0
  go_enter Tryz.func79, Tryz.ntmps79
  go_wp2_with fail
  rw [← HW0.out] at c0 ⊢
  go_region_held3 (fun w' => w'.cell? ⟨sb, 0, none⟩ = some (lptr g)) (go_keep)
    (first
      | (go_at_call 32; refine (kP.out _ ?_).mono ?_; (first | exact (Below.refl _ _).drew | exact Below.refl _ _); rintro e w1 ⟨rfl, O1, k1⟩)
      | (go_at_call 125; refine (kR.out _ O1.out).mono ?_; rintro e w2 ⟨va, vc, rfl, HO2, k2⟩))
  clear kP kR k1 k2 O1 c0
  have N2 := hide' (nin_below NZ.out HO2.out.2)
  have B2 := hide' (BZ.out.trans (HO2.out.2.mono BZ.out.size))
  by_cases hre : re = 0
  · subst hre
    rw [if_pos rfl] at RD
    have CD := hide' (decOC _ bs w2 (holdsB_own HO2.out) (by omega) (env_below HE.out B2.out) (tab_below HT.out B2.out))
    generalize decO bs = dd at CD RD
    obtain ⟨en, de⟩ := dd
    simp only at RD
    go_wp2_with fail
    refine CD.out.mono ?_
    rintro x w3 ⟨lv, bv, rfl, hF, hY⟩
    have HF := hide' hF
    have HY := hide' hY
    obtain ⟨la, lc, _, _, e1, -⟩ := holdsF_parts (holdsF_own hF)
    obtain ⟨ba, bc, e2⟩ := row_sl hY.1
    have N3 := hide' (nin_below N2.out hF.2)
    clear hF hY CD N2
    unfold entV
    subst e1 e2
    have LT2 : Hid (W.heap.size < w2.heap.size) := by have := HO2.out.2.size; have := Z0.out; unfold Hid; omega
    have bx := below_alloc' w3 (.cells #[.string ⟨en.key.toArray⟩, .string ⟨en.vary.toArray⟩, .int .i64 en.r.s, .string ⟨en.r.r.toArray⟩, .int .i64 en.r.k, .slice la en.r.fs.length lc, .slice ba en.body.length bc, .int .i64 en.a, .int .i64 en.g] 59)
    have N4 := hide' (nin_below N3.out bx)
    have HF4 := hide' (ownF_mono HF.out bx)
    have HY4 := hide' (own_mono HY.out bx)
    obtain ⟨⟨u0, u1, u2, u3, u4, u5, u6, u7, u8, bk⟩, bel, hle⟩ := N4.out
    obtain ⟨⟨c0, c1, c2, c3, c4, c5, c6, c7, c8⟩, f0, f1, f2, f3, f4, f5, f6, f7, f8⟩ := cells_nine bk
    have hlt := bk.2
    have RV : Hid (rdS s no = (en, decide (de = 0))) := RD
    clear bk bx N3 HF HY bel RD
    go_wp2_with fail
    obtain ⟨⟨q0, q1, q2, q3, q4, q5, q6, q7, q8⟩, qb, qe⟩ := nin_store N4.out (.string ⟨en.key.toArray⟩) (.string ⟨en.vary.toArray⟩) (.int .i64 en.r.s) (.string ⟨en.r.r.toArray⟩) (.int .i64 en.r.k) (.slice la en.r.fs.length lc) (.slice ba en.body.length bc) (.int .i64 en.a) (.int .i64 en.g) _ rfl
    refine bodyPost_ret (v := .tuple #[.agg #[.string ⟨en.key.toArray⟩, .string ⟨en.vary.toArray⟩, .int .i64 en.r.s, .string ⟨en.r.r.toArray⟩, .int .i64 en.r.k, .slice la en.r.fs.length lc, .slice ba en.body.length bc, .int .i64 en.a, .int .i64 en.g], .bool (de == 0)]) (by simp [results, Tryz.results79, go_sem, q0, q1, q2, q3, q4, q5, q6, q7, q8]) rfl ?_
    rw [RV.out]
    refine ⟨.slice la en.r.fs.length lc, .slice ba en.body.length bc, ?_, ?_, ?_⟩
    · have e9 : (de == 0) = decide (de = 0) := by by_cases h : de = 0 <;> simp [h]
      rw [e9]
      rfl
    · rw [qe]; exact ownF_put HF4.out LT2.out B2.out (Nat.le_refl _) _
    · rw [qe]; exact own_putB HY4.out LT2.out B2.out (Nat.le_refl _) _
  · have hre' : (re == 0) = false := by simpa using hre
    rw [if_neg hre] at RD
    obtain ⟨⟨u0, u1, u2, u3, u4, u5, u6, u7, u8, bk⟩, bel, hle⟩ := N2.out
    obtain ⟨⟨c0, c1, c2, c3, c4, c5, c6, c7, c8⟩, f0, f1, f2, f3, f4, f5, f6, f7, f8⟩ := cells_nine bk
    have hlt := bk.2
    clear bk bel
    go_wp2_with fail
    obtain ⟨⟨q0, q1, q2, q3, q4, q5, q6, q7, q8⟩, qb, -⟩ := nin_store N2.out (.string ⟨#[]⟩) (.string ⟨#[]⟩) (.int .i64 0) (.string ⟨#[]⟩) (.int .i64 0) (.slice none 0 0) (.slice none 0 0) (.int .i64 0) (.int .i64 0) _ rfl
    refine bodyPost_ret (v := .tuple #[ezV, .bool false]) (by simp [results, ezV, Tryz.results79, go_sem, q0, q1, q2, q3, q4, q5, q6, q7, q8]) rfl ?_
    rw [RD.out]
    exact ⟨.slice none 0 0, .slice none 0 0, rfl, ownF_nil _ _ qb, own_nil _ _ qb⟩
/-- Get: the entry of an id -/
def getT (id : Nm) (s : Dk) (t : NL) : En × Bool := match atN t id with
  | none => (En.zero, false)
  | some k => rdS s (k : Int)
theorem getSC {o : Ow} {g lb sb tm : Nat} {slots : Int} {s : Dk} {c : Int} {t : NL} {W : World} (h : StoS o g lb sb tm slots s c t W) (hB : Bd 90000000 s) (id : ByteArray) (hid : id.size ≤ 140737488351232) (E : Env W) (T : Tab W) :
    Calls Tryz.prog 26 #[lptr sb, .string id] W fun x W' => RdPostS W (getT id.data.toList s t) x W' := by
  have bz := below_alloc' W (.cells #[.string ⟨#[]⟩, .string ⟨#[]⟩, .int .i64 0, .string ⟨#[]⟩, .int .i64 0, .slice none 0 0, .slice none 0 0, .int .i64 0, .int .i64 0] 59)
  have NZ : Hid (NinB W W.heap.size (W.alloc (.cells #[.string ⟨#[]⟩, .string ⟨#[]⟩, .int .i64 0, .string ⟨#[]⟩, .int .i64 0, .slice none 0 0, .slice none 0 0, .int .i64 0, .int .i64 0] 59))) := ⟨⟨_, _, _, _, _, _, _, _, _, cells_lit W #[.string ⟨#[]⟩, .string ⟨#[]⟩, .int .i64 0, .string ⟨#[]⟩, .int .i64 0, .slice none 0 0, .slice none 0 0, .int .i64 0, .int .i64 0] 59⟩, bz, Nat.le_refl _⟩
  have hs0 := stoS_below h bz
  have CR := hide' (fun no => readSC hs0 hB no (env_below E bz) (tab_below T bz))
  have GT : Hid (getT id.data.toList s t = match atN t id.data.toList with | none => (En.zero, false) | some k => rdS s (k : Int)) := rfl
  obtain ⟨-, -, -, c3⟩ := stoS_cells hs0
  have LT : Hid (W.heap.size < (W.alloc (.cells #[.string ⟨#[]⟩, .string ⟨#[]⟩, .int .i64 0, .string ⟨#[]⟩, .int .i64 0, .slice none 0 0, .slice none 0 0, .int .i64 0, .int .i64 0] 59)).heap.size) := by unfold Hid; simp
  have BZ := hide' bz
  cases hat : atN t id.data.toList with
  | none =>
    have hlk := tbi_none hs0.tab hid hat
    rw [hat] at GT
    simp only at GT
    obtain ⟨⟨u0, u1, u2, u3, u4, u5, u6, u7, u8, bk⟩, bel, hle⟩ := NZ.out
    clear hat h hB E T hs0 bz CR bk bel
    go_enter Tryz.func26, Tryz.ntmps26
    go_wp2_with fail
    refine bodyPost_ret (v := .tuple #[ezV, .bool false]) (by simp [results, ezV, Tryz.results26, go_sem]) rfl ?_
    rw [GT.out]
    exact ⟨.slice none 0 0, .slice none 0 0, rfl, ownF_nil _ _ BZ.out, own_nil _ _ BZ.out⟩
  | some k =>
    have hlk := tbi_some hs0.tab hid hat
    rw [hat] at GT
    simp only at GT
    have C1 := hide' (CR.out (k : Int))
    rw [← GT.out] at C1
    generalize getT id.data.toList s t = q at C1 GT
    obtain ⟨en, ok⟩ := q
    clear hat h hB E T hs0 bz CR
    go_enter Tryz.func26, Tryz.ntmps26
    go_wp2_with fail
    refine C1.out.mono ?_
    rintro x w3 ⟨lv, bv, rfl, hF, hY⟩
    have HF := hide' hF
    have HY := hide' hY
    obtain ⟨la, lc, _, _, e1, -⟩ := holdsF_parts (holdsF_own hF)
    obtain ⟨ba, bc, e2⟩ := row_sl hY.1
    have N4 := hide' (nin_below NZ.out hF.2)
    clear hF hY C1
    unfold entV
    simp only at e1 e2 HF HY ⊢
    subst e1 e2
    obtain ⟨⟨u0, u1, u2, u3, u4, u5, u6, u7, u8, bk⟩, bel, hle⟩ := N4.out
    obtain ⟨⟨c0, c1, c2, c3', c4, c5, c6, c7, c8⟩, f0, f1, f2, f3, f4, f5, f6, f7, f8⟩ := cells_nine bk
    have hlt := bk.2
    clear bk bel
    go_wp2_with fail
    obtain ⟨⟨q0, q1, q2, q3, q4, q5, q6, q7, q8⟩, qb, qe⟩ := nin_store N4.out (.string ⟨en.key.toArray⟩) (.string ⟨en.vary.toArray⟩) (.int .i64 en.r.s) (.string ⟨en.r.r.toArray⟩) (.int .i64 en.r.k) (.slice la en.r.fs.length lc) (.slice ba en.body.length bc) (.int .i64 en.a) (.int .i64 en.g) _ rfl
    refine bodyPost_ret (v := .tuple #[.agg #[.string ⟨en.key.toArray⟩, .string ⟨en.vary.toArray⟩, .int .i64 en.r.s, .string ⟨en.r.r.toArray⟩, .int .i64 en.r.k, .slice la en.r.fs.length lc, .slice ba en.body.length bc, .int .i64 en.a, .int .i64 en.g], .bool ok]) (by simp [results, Tryz.results26, go_sem, q0, q1, q2, q3, q4, q5, q6, q7, q8]) rfl ?_
    refine ⟨.slice la en.r.fs.length lc, .slice ba en.body.length bc, rfl, ?_, ?_⟩
    · rw [qe]; exact ownF_put HF.out LT.out BZ.out (Nat.le_refl _) _
    · rw [qe]; exact own_putB HY.out LT.out BZ.out (Nat.le_refl _) _
end Go.Proofs.YtibjcofbhldenaaGreatDoor
namespace Go.Proofs.YtibjcofbhldenaaGreatDoor
open Go.RowKit
/-- a store of n numbers whose files are the log's and its entries' alone -/
structure Inv (n : Nat) (q : LSt × NL) : Prop where
  ok : Ok3 q.1.1
  srt : SortedN q.2
  log : ∃ b, vw q.1.1 lgN = some b
  nw : vw q.1.1 nwN = none
  num : ∀ p ∈ q.2, p.2 < n
  one : ∀ p ∈ q.2, ∀ r ∈ q.2, p.2 = r.2 → p = r
  ent : ∀ p ∈ q.2, ∃ b e, vw q.1.1 (nameN (p.2 : Int)) = some b ∧ decO b = (e, 0) ∧ idOf e = p.1
  all : ∀ x, vw q.1.1 x ≠ none → x = lgN ∨ ∃ p ∈ q.2, x = nameN (p.2 : Int)
theorem free_not {t : NL} {n no : Nat} (h : freeI t n = (no : Int)) : no < n ∧ ∀ p ∈ t, p.2 ≠ no := by
  have hl : (takenL t n).length = n := by unfold takenL; simp
  have hin := fstF_in (takenL t n)
  unfold freeI at h
  rw [h, hl] at hin
  have hno : no < n := by omega
  refine ⟨hno, fun p hp e => ?_⟩
  have key : ∀ (bs : List Bool) (k : Nat), fstF bs = (k : Int) → ∃ h : k < bs.length, bs[k] = false := by
    intro bs
    induction bs with
    | nil => intro k hk; simp only [fstF] at hk; omega
    | cons b r ih =>
      intro k hk
      cases b with
      | false =>
        simp [fstF] at hk
        have : k = 0 := by omega
        subst this
        exact ⟨by simp, rfl⟩
      | true =>
        simp only [fstF] at hk
        split at hk
        · omega
        · obtain ⟨h1, h2⟩ := ih (k - 1) (by omega)
          have hk0 : k = (k - 1) + 1 := by omega
          refine ⟨by rw [List.length_cons]; omega, ?_⟩
          have : (true :: r)[k]'(by rw [List.length_cons]; omega) = (true :: r)[(k - 1) + 1]'(by rw [List.length_cons]; omega) := by congr 1
          rw [this, List.getElem_cons_succ]
          exact h2
  obtain ⟨h1, h2⟩ := key _ _ h
  have h3 : (takenL t n)[no]? = some false := by rw [List.getElem?_eq_getElem h1, h2]
  unfold takenL at h3
  rw [List.getElem?_map, List.getElem?_range hno] at h3
  simp only [Option.map_some, Option.some.injEq] at h3
  rw [List.any_eq_false] at h3
  have := h3 p hp
  simp at this
  exact this e
/-- putAt, on a disk without faults -/
theorem paT {n : Nat} (hn : n ≤ 4096) {q : LSt × NL} (I : Inv n q) {no : Nat} (hno : no < n) (hfree : ∀ p ∈ q.2, p.2 ≠ no) (id : Nm) (d : List UInt8) :
    ((putAtT no id d q).2 ≠ 0 ∧ (putAtT no id d q).1.2 = q.2 ∧ (putAtT no id d q).1.1.2 = q.1.2 ∧ Ok3 (putAtT no id d q).1.1.1 ∧ ∀ x, vw (putAtT no id d q).1.1.1 x = vw q.1.1 x) ∨
    ((putAtT no id d q).2 = 0 ∧ (putAtT no id d q).1.2 = putN q.2 id no ∧ Ok3 (putAtT no id d q).1.1.1 ∧ ∃ b', ∀ x, vw (putAtT no id d q).1.1.1 x = if x = lgN then some b' else if (∃ k, atN q.2 id = some k ∧ x = nameN (k : Int)) then none else if x = nameN (no : Int) then some d else vw q.1.1 x) := by
  obtain ⟨st, t⟩ := q
  have hk : no < 4096 := by omega
  have hg := name_good hk
  have hnl := name_lg hk
  have hnn := name_nw hk
  have hv0 : vw st.1 (nameN (no : Int)) = none := by
    cases e : vw st.1 (nameN (no : Int)) with
    | none => rfl
    | some b =>
      rcases I.all (nameN (no : Int)) (by rw [e]; simp) with h1 | ⟨p, hp, h1⟩
      · exact absurd h1 hnl
      · have := name_inj hk (by have := I.num p hp; omega) h1
        exact absurd this.symm (hfree p hp)
  obtain ⟨lb, hlb⟩ := I.log
  simp only at hlb
  obtain ⟨c1, c2, c3, c4⟩ := crT I.ok hg hv0
  simp only at c1 c2 c3 c4
  have P : putAtT no id d (st, t) = if (fadT no id d (createT (nameN (no : Int)) st).1).1.2 = (createT (nameN (no : Int)) st).1.2 then (((opT ⟨6, nameN (no : Int), [], []⟩ (fadT no id d (createT (nameN (no : Int)) st).1).1).1, t), (fadT no id d (createT (nameN (no : Int)) st).1).2) else (behT no id ((fadT no id d (createT (nameN (no : Int)) st).1).1, t), (fadT no id d (createT (nameN (no : Int)) st).1).2) := by
    unfold putAtT
    rw [if_neg (by simp only; rw [c1]; simp)]
  rw [P]
  generalize (createT (nameN (no : Int)) st).1 = st1 at c2 c3 c4
  have hv1 : vw st1.1 (nameN (no : Int)) = some [] := by rw [c4, if_pos rfl]
  have hl1 : vw st1.1 lgN = some lb := by rw [c4, if_neg hnl.symm, hlb]
  have hw1 : vw st1.1 nwN = none := by rw [c4, if_neg hnn.symm]; exact I.nw
  obtain ⟨f1, f2, f3⟩ := fiT c3 hg hv1 d
  -- the file's bytes and its record
  have F : Ok3 (fadT no id d st1).1.1 ∧ (((fadT no id d st1).2 ≠ 0 ∧ (fadT no id d st1).1.2 = st1.2 ∧ ∃ b', ∀ x, vw (fadT no id d st1).1.1 x = if x = nameN (no : Int) then some b' else vw st1.1 x) ∨ ((fadT no id d st1).2 = 0 ∧ (fadT no id d st1).1.2 = st1.2 + 1 ∧ ∃ b', ∀ x, vw (fadT no id d st1).1.1 x = if x = lgN then some b' else if x = nameN (no : Int) then some d else vw st1.1 x)) := by
    unfold fadT
    rcases f3 with ⟨g1, g2⟩ | ⟨g1, g2⟩
    · rw [if_neg (by rw [g1]; decide)]
      refine ⟨f2, .inl ⟨by rw [g1]; decide, f1, [], fun x => ?_⟩⟩
      rw [g2]
      by_cases hx : x = nameN (no : Int)
      · rw [if_pos hx, hx, hv1]
      · rw [if_neg hx]
    · rw [if_pos g1]
      have hl2 : vw (fileT (nameN (no : Int)) d st1).1.1 lgN = some lb := by rw [g2, if_neg hnl.symm, hl1]
      obtain ⟨a1, a2⟩ := adT f2 hl2 1 (no : Int) id
      refine ⟨a1, ?_⟩
      rcases a2 with ⟨a3, a4, a5⟩ | ⟨a3, a4, b', a5⟩
      · exact .inl ⟨a3, by rw [a4, f1], [] ++ d, fun x => by rw [a5, g2]⟩
      · exact .inr ⟨a3, by rw [a4, f1], b', fun x => by rw [a5, g2]; rfl⟩
  generalize fadT no id d st1 = fa at F
  obtain ⟨F1, F2⟩ := F
  rcases F2 with ⟨e1, e2, b', e3⟩ | ⟨e1, e2, b', e3⟩
  · left
    rw [if_pos e2]
    have hv2 : vw fa.1.1 (nameN (no : Int)) = some b' := by rw [e3, if_pos rfl]
    obtain ⟨r1, r2⟩ := st_remove F1 hg hv2
    refine ⟨e1, rfl, ?_, ok3_step F1 _, fun x => ?_⟩
    · show fa.1.2 = st.2
      rw [e2, c2]
    · show vw (fa.1.1.step ⟨6, nameN (no : Int), [], []⟩).1 x = vw st.1 x
      rw [r2, e3, c4]
      by_cases hx : x = nameN (no : Int)
      · rw [if_pos hx, hx, hv0]
      · rw [if_neg hx, if_neg hx, if_neg hx]
  · right
    rw [if_neg (by rw [e2]; omega)]
    refine ⟨e1, rfl, ?_⟩
    unfold behT
    simp only
    have hl2 : vw fa.1.1 lgN = some b' := by rw [e3, if_pos rfl]
    have hw2 : vw fa.1.1 nwN = none := by rw [e3, if_neg lg_nw.symm, if_neg hnn.symm, hw1]
    cases ha : atN t id with
    | none =>
      simp only
      obtain ⟨t1, b2, t2⟩ := tdT F1 hl2 hw2 (putN t id no)
      refine ⟨t1, b2, fun x => ?_⟩
      rw [t2, e3, c4]
      have hne : ¬ ∃ k, (none : Option Nat) = some k ∧ x = nameN (k : Int) := by rintro ⟨k, hk, _⟩; cases hk
      rw [if_neg hne]
      by_cases hx : x = lgN
      · rw [if_pos hx, if_pos hx]
      · rw [if_neg hx, if_neg hx, if_neg hx]
        by_cases hy : x = nameN (no : Int)
        · rw [if_pos hy, if_pos hy]
        · rw [if_neg hy, if_neg hy, if_neg hy]
    | some k =>
      simp only
      have hkm := at_some ha
      have hk4 : k < 4096 := by have := I.num _ hkm; simp only at this; omega
      have hkn : nameN (k : Int) ≠ nameN (no : Int) := fun e => hfree _ hkm (name_inj hk4 hk e)
      obtain ⟨bk, ek, hbk, -⟩ := I.ent _ hkm
      simp only at hbk
      have hv2 : vw fa.1.1 (nameN (k : Int)) = some bk := by rw [e3, if_neg (name_lg hk4), if_neg hkn, c4, if_neg hkn, hbk]
      obtain ⟨r1, r2⟩ := st_remove F1 (name_good hk4) hv2
      have hl3 : vw (opT ⟨6, nameN (k : Int), [], []⟩ fa.1).1.1 lgN = some b' := by
        show vw (fa.1.1.step _).1 lgN = _
        rw [r2, if_neg (name_lg hk4).symm, hl2]
      have hw3 : vw (opT ⟨6, nameN (k : Int), [], []⟩ fa.1).1.1 nwN = none := by
        show vw (fa.1.1.step _).1 nwN = _
        rw [r2, if_neg (name_nw hk4).symm, hw2]
      obtain ⟨t1, b2, t2⟩ := tdT (st := (opT ⟨6, nameN (k : Int), [], []⟩ fa.1).1) (ok3_step F1 _) hl3 hw3 (putN t id no)
      refine ⟨t1, b2, fun x => ?_⟩
      rw [t2]
      show (if x = lgN then some b2 else vw (fa.1.1.step ⟨6, nameN (k : Int), [], []⟩).1 x) = _
      rw [r2, e3, c4]
      by_cases hx : x = lgN
      · rw [if_pos hx, if_pos hx]
      · rw [if_neg hx, if_neg hx, if_neg hx]
        by_cases hz : x = nameN (k : Int)
        · rw [if_pos hz, if_pos ⟨k, rfl, hz⟩]
        · have hne : ¬ ∃ j, some k = some j ∧ x = nameN (j : Int) := by
            rintro ⟨j, hj, hxj⟩
            rw [← Option.some.inj hj] at hxj
            exact hz hxj
          rw [if_neg hz, if_neg hne]
          by_cases hy : x = nameN (no : Int)
          · rw [if_pos hy, if_pos hy]
          · rw [if_neg hy, if_neg hy, if_neg hy]
theorem read_vw {s : Dk} (h : Fl s) {nm : Nm} (hg : goodN nm = true) : s.read nm = match vw s nm with | none => ([], 90) | some b => (b, 0) := by
  unfold Dk.read vw
  rw [if_neg (by rw [fl_down h]; decide), if_neg (by rw [hg]; decide)]
  cases atN s.now nm <;> rfl
theorem rd_same {s s' : Dk} (h : Fl s) (h' : Fl s') {k : Nat} (hk : k < 4096) (hv : vw s' (nameN (k : Int)) = vw s (nameN (k : Int))) : rdS s' (k : Int) = rdS s (k : Int) := by
  unfold rdS
  rw [read_vw h (name_good hk), read_vw h' (name_good hk), hv]
theorem rd_ent {s : Dk} (h : Fl s) {k : Nat} (hk : k < 4096) {b : List UInt8} {e : En} (hv : vw s (nameN (k : Int)) = some b) (hd : decO b = (e, 0)) : rdS s (k : Int) = (e, true) := by
  unfold rdS
  rw [read_vw h (name_good hk), hv]
  simp [hd]
theorem inv_refl {n : Nat} {q q' : LSt × NL} (I : Inv n q) (ho : Ok3 q'.1.1) (ht : q'.2 = q.2) (hv : ∀ x, vw q'.1.1 x = vw q.1.1 x) : Inv n q' := by
  obtain ⟨b, hb⟩ := I.log
  refine ⟨ho, by rw [ht]; exact I.srt, ⟨b, by rw [hv]; exact hb⟩, by rw [hv]; exact I.nw, by rw [ht]; exact I.num, by rw [ht]; exact I.one, ?_, ?_⟩
  · intro p hp
    rw [ht] at hp
    obtain ⟨b, e, h1, h2⟩ := I.ent p hp
    exact ⟨b, e, by rw [hv]; exact h1, h2⟩
  · intro x hx
    rw [hv] at hx
    rw [ht]
    exact I.all x hx
/-- a Put: refused, all that can be seen is as it was; done, the store is one again -/
theorem put_inv {n : Nat} (hn : n ≤ 4096) {q : LSt × NL} (I : Inv n q) (e : En) :
    Inv n (putT n e q).1 ∧ ((putT n e q).2 ≠ 0 → (putT n e q).1.2 = q.2 ∧ ∀ x, vw (putT n e q).1.1.1 x = vw q.1.1 x) := by
  have same : Inv n q ∧ (∀ z : Int, z ≠ 0 → q.2 = q.2 ∧ ∀ x, vw q.1.1 x = vw q.1.1 x) := ⟨I, fun _ _ => ⟨rfl, fun _ => rfl⟩⟩
  unfold putT
  split
  · exact ⟨I, fun _ => ⟨rfl, fun _ => rfl⟩⟩
  · rename_i hob
    split
    · exact ⟨I, fun _ => ⟨rfl, fun _ => rfl⟩⟩
    · split
      · exact ⟨I, fun _ => ⟨rfl, fun _ => rfl⟩⟩
      · rename_i hlen hfr
        have hz : (objOf e).2 = 0 := by
          rcases Int.decEq (objOf e).2 0 with h | h
          · exact absurd h hob
          · exact h
        obtain ⟨no, hno⟩ : ∃ no : Nat, freeI q.2 n = (no : Int) := ⟨(freeI q.2 n).toNat, by omega⟩
        rw [hno, Int.toNat_natCast]
        obtain ⟨f1, f2⟩ := free_not hno
        rcases paT hn I f1 f2 (idOf e) (objOf e).1 with ⟨r1, r2, r3, r4, r5⟩ | ⟨r1, r2, r3, b', r5⟩
        · exact ⟨inv_refl I r4 r2 r5, fun _ => ⟨r2, r5⟩⟩
        · refine ⟨?_, fun h => absurd r1 h⟩
          have hd : decO (objOf e).1 = (e, 0) := dec_obj (Prod.ext rfl hz)
          have hk : no < 4096 := by omega
          have hold : ∀ {p : Nm × Nat}, p ∈ q.2 → p.1 ≠ idOf e → vw (putAtT no (idOf e) (objOf e).1 q).1.1.1 (nameN (p.2 : Int)) = vw q.1.1 (nameN (p.2 : Int)) := fun {p} hp hpe => by
            have hp4 : p.2 < 4096 := by have := I.num p hp; omega
            rw [r5, if_neg (name_lg hp4), if_neg, if_neg (fun e2 => f2 p hp (name_inj hp4 hk e2))]
            rintro ⟨k, hk1, hk2⟩
            have hkm := at_some hk1
            have hk4 : k < 4096 := by have := I.num _ hkm; simp only at this; omega
            have e3 := I.one p hp _ hkm (name_inj hp4 hk4 hk2)
            rw [e3] at hpe
            exact hpe rfl
          have hnew : vw (putAtT no (idOf e) (objOf e).1 q).1.1.1 (nameN (no : Int)) = some (objOf e).1 := by
            rw [r5, if_neg (name_lg hk), if_neg, if_pos rfl]
            rintro ⟨k, hk1, hk2⟩
            have hkm := at_some hk1
            have hk4 : k < 4096 := by have := I.num _ hkm; simp only at this; omega
            exact f2 _ hkm (name_inj hk hk4 hk2).symm
          refine ⟨r3, by rw [r2]; exact sorted_put I.srt _ _, ⟨b', by rw [r5, if_pos rfl]⟩, ?_, ?_, ?_, ?_, ?_⟩
          · rw [r5, if_neg lg_nw.symm]
            split
            · rfl
            · rw [if_neg (name_nw hk).symm]; exact I.nw
          · intro p hp
            rw [r2] at hp
            rcases mem_put.1 hp with h1 | ⟨h1, _⟩
            · rw [h1]; exact f1
            · exact I.num p h1
          · intro p hp r hr hpr
            rw [r2] at hp hr
            rcases mem_put.1 hp with h1 | ⟨h1, h1'⟩
            · rcases mem_put.1 hr with h2 | ⟨h2, _⟩
              · rw [h1, h2]
              · rw [h1] at hpr; exact absurd hpr.symm (f2 r h2)
            · rcases mem_put.1 hr with h2 | ⟨h2, _⟩
              · rw [h2] at hpr; exact absurd hpr (f2 p h1)
              · exact I.one p h1 r h2 hpr
          · intro p hp
            rw [r2] at hp
            rcases mem_put.1 hp with h1 | ⟨h1, h1'⟩
            · rw [h1]; exact ⟨_, e, hnew, hd, rfl⟩
            · obtain ⟨b, e0, h3, h4⟩ := I.ent p h1
              exact ⟨b, e0, by rw [hold h1 h1']; exact h3, h4⟩
          · intro x hx
            rw [r5] at hx
            split at hx
            · rename_i h; exact .inl h
            · split at hx
              · exact absurd rfl hx
              · rename_i hne
                split at hx
                · rename_i h
                  exact .inr ⟨(idOf e, no), by rw [r2]; exact mem_put.2 (.inl rfl), h⟩
                · rcases I.all x hx with h | ⟨p, hp, h⟩
                  · exact .inl h
                  · right
                    refine ⟨p, ?_, h⟩
                    rw [r2]
                    refine mem_put.2 (.inr ⟨hp, fun e2 => hne ?_⟩)
                    refine ⟨p.2, ?_, h⟩
                    rw [← e2]
                    exact at_mem I.srt hp
end Go.Proofs.YtibjcofbhldenaaGreatDoor
