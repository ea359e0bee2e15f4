/- The contracts of the store's Put and read. Plain: the store's steps on a disk without faults, by what the names hold. -/
import Derived.Test.YtibjcofbhldenaaGreatDoorZ39
import Derived.Test.YtibjcofbhldenaaGreatDoorZ30
import Derived.Test.YtibjcofbhldenaaGreatDoorZ41
import Derived.Test.YtibjcofbhldenaaGreatDoorZ15
namespace Go.Proofs.YtibjcofbhldenaaGreatDoor
open Go.RowKit Go.Maps
/-- an entry's name in the store -/
def idOf (e : En) : Nm := e.key ++ 10 :: e.vary
theorem idSC (k v : List UInt8) (w : World) (hk : k.length ≤ 10000000) (hv : v.length ≤ 10000000) :
    Calls Tryz.prog 65 #[.string ⟨k.toArray⟩, .string ⟨v.toArray⟩] w fun e w' => e = .returned (.string ⟨(k ++ 10 :: v).toArray⟩) ∧ w' = w := by
  have z1 : (⟨k.toArray⟩ : ByteArray).size = k.length := size_l k
  have z2 : (⟨v.toArray⟩ : ByteArray).size = v.length := size_l v
  have z3 : (⟨#[10]⟩ : ByteArray).size = 1 := rfl
  obtain ⟨X1, a1, l1, s1⟩ := add_str ⟨k.toArray⟩ ⟨#[10]⟩ (by omega)
  obtain ⟨X2, a2, l2, s2⟩ := add_str X1 ⟨v.toArray⟩ (by omega)
  have E : Hid (X2 = ⟨(k ++ 10 :: v).toArray⟩) := ba_mk (by rw [l2, l1]; simp)
  clear l1 l2
  generalize (⟨k.toArray⟩ : ByteArray) = K at *
  generalize (⟨v.toArray⟩ : ByteArray) = V at *
  go_enter Tryz.func65, Tryz.ntmps65
  go_wp2
  go_ret
  rw [E.out]
  exact ⟨rfl, rfl⟩
def putT (n : Nat) (e : En) (q : LSt × NL) : (LSt × NL) × Int :=
  if (objOf e).2 ≠ 0 then (q, 120)
  else if 4096 < (idOf e).length then (q, 101)
  else if freeI q.2 n < 0 then (q, 130)
  else putAtT (freeI q.2 n).toNat (idOf e) (objOf e).1 q
theorem freeI_in (t : NL) (n : Nat) : -1 ≤ freeI t n ∧ freeI t n < n ∨ freeI t n = -1 := by
  have := fstF_in (takenL t n)
  unfold freeI
  have e : (takenL t n).length = n := by unfold takenL; simp
  rw [e] at this
  exact this
theorem bytS_own {o : Ow} {g lb sb tm : Nat} {slots : Int} {s : Dk} {c : Int} {t : NL} {W0 W : World} {v : Value} {bs : List UInt8} (h : StoS o g lb sb tm slots s c t W0) (ho : Own W0 v bs W) : BytS o lb tm v bs W := by
  refine ⟨holdsB_own ho, fun ad n c e => ?_⟩
  have h1 : v.ownBlock = some ad.block := by
    rcases ho.1.2 with ⟨e2, _⟩ | ⟨x, cap, cur, e2, _⟩
    · rw [e] at e2; cases e2
    · rw [e] at e2; simp at e2; rw [e, e2.1]; rfl
  obtain ⟨h2, h3⟩ := ho.1.lt _ h1
  have l1 := h.log.blk.2
  have l2 := tbi_lt h.tab
  exact ⟨none_of_lt (dsk_lt h.log.dsk) h2, by omega, by omega, h3⟩
theorem obj_short {e : En} (h : (objOf e).2 = 0) : (objOf e).1.length ≤ 1000000 ∧ Bnd e := by
  have hp : objOf e = ((objOf e).1, 0) := Prod.ext rfl h
  refine ⟨?_, bnd_obj hp⟩
  have := (obj_len hp).2
  omega
set_option maxRecDepth 20000
set_option maxHeartbeats 4000000
theorem putSC {o : Ow} {g lb sb tm n : Nat} {s : Dk} {c : Int} {t : NL} {W : World} (h : StoS o g lb sb tm (n : Int) s c t W) (m : Nat) (hB : Bd m s) (e : En) (lv bv : Value) (hF : HoldsF W lv e.r.fs) (hY : HoldsB W bv e.body) (BE : Bnd e) (hkl : e.key.length ≤ 1048576) (hvl : e.vary.length ≤ 1048576) (T : Tab W) (hn : n ≤ 4096) (htn : ∀ p ∈ t, p.2 < n)
    (hm : ∀ no, m + 1100000 + 4 * (8 + 3 * bulkR (recsOf (putN t (idOf e) no))) ≤ 50000000) (ht : SmlT t) (htl : t.length + 1 ≤ 1000000) :
    Calls Tryz.prog 19 #[lptr sb, entV e lv bv] W fun x W' => TPost o g lb sb tm (n : Int) (putT n e ((s, c), t)) W x W' ∧ ∃ no, Bd (m + 1100000 + 4 * (8 + 3 * bulkR (recsOf (putN t (idOf e) no)))) (putT n e ((s, c), t)).1.1.1 := by
  obtain ⟨la, lc, _, _, e1, -⟩ := holdsF_parts hF
  obtain ⟨ba, bc, e2, -⟩ := holdsB_parts hY
  have H := hide' h
  have BB := hide' hB
  have TT := hide' ht
  have HTN := hide' htn
  have HM := hide' hm
  have bx := below_alloc' W (.cells #[.string ⟨e.key.toArray⟩, .string ⟨e.vary.toArray⟩, .int .i64 e.r.s, .string ⟨e.r.r.toArray⟩, .int .i64 e.r.k, lv, bv, .int .i64 e.a, .int .i64 e.g] 59)
  have BX := hide' bx
  have CE := hide' (encB BE lv bv _ (holdsF_mono hF bx) (holdsB_mono hY bx) (tab_below T bx))
  have KB := hide' (cells_lit W #[.string ⟨e.key.toArray⟩, .string ⟨e.vary.toArray⟩, .int .i64 e.r.s, .string ⟨e.r.r.toArray⟩, .int .i64 e.r.k, lv, bv, .int .i64 e.a, .int .i64 e.g] 59)
  have PT : Hid (putT n e ((s, c), t) = if (objOf e).2 ≠ 0 then (((s, c), t), 120) else if 4096 < (idOf e).length then (((s, c), t), 101) else if freeI t n < 0 then (((s, c), t), 130) else putAtT (freeI t n).toNat (idOf e) (objOf e).1 ((s, c), t)) := rfl
  have OS := hide' (fun h0 => (obj_short (e := e) h0).1)
  have CI := hide' (fun W' => idSC e.key e.vary W' (by omega) (by omega))
  have IE : Hid (e.key ++ 10 :: e.vary = idOf e) := rfl
  rw [IE.out] at CI
  have hil : (idOf e).length ≤ 3000000 := by unfold idOf; simp only [List.length_append, List.length_cons]; omega
  unfold entV at CE ⊢
  subst e1 e2
  clear h hB hF hY BE T ht htn bx hm
  generalize idOf e = id at *
  generalize objOf e = ob at *
  obtain ⟨od, oe⟩ := ob
  simp only at CE PT OS
  generalize e.key = k0 at *
  generalize e.vary = k1 at *
  generalize e.r.s = k2 at *
  generalize e.r.r = k3 at *
  generalize e.r.k = k4 at *
  generalize e.a = k7 at *
  generalize e.g = k8 at *
  go_enter Tryz.func19, Tryz.ntmps19
  go_wp2_with fail
  refine CE.out.mono ?_
  rintro x w1 ⟨u, rfl, ho⟩
  have O1 := hide' (own_base ho BX.out)
  have B1 := hide' (BX.out.trans (ho.2.mono BX.out.size))
  have HS1 := hide' (stoS_below H.out B1.out)
  have BY := hide' (bytS_own H.out O1.out)
  have KB1 := hide' (cells_below KB.out ho.2)
  obtain ⟨ua, uc, hu⟩ := row_sl ho.1
  rw [hu] at BY ⊢
  clear ho CE KB BX H hu O1
  have G1 : Hid (GrowT lb tm o W o w1) := growT_below B1.out
  by_cases he : oe = 0
  · subst he
    rw [if_neg (by simp)] at PT
    have hod := OS.out rfl
    obtain ⟨⟨d0, d1, d2, d3, d4, d5, d6, d7, d8⟩, -⟩ := cells_nine KB1.out
    clear d2 d3 d4 d5 d6 d7 d8 OS
    by_cases hl : 4096 < id.length
    · rw [if_pos hl] at PT
      have hl' : (4096 : Int) < (⟨id.toArray⟩ : ByteArray).size := by rw [size_l]; omega
      generalize (⟨id.toArray⟩ : ByteArray) = idb at CI hl'
      go_wp2_with fail
      refine (CI.out _).mono ?_
      rintro x w9 ⟨rfl, ew⟩
      rw [ew]
      clear ew w9
      go_wp2_with fail
      go_ret
      rw [PT.out]
      exact ⟨⟨rfl, o, HS1.out, G1.out⟩, 0, bd_mono BB.out (by omega)⟩
    · rw [if_neg hl] at PT
      have CFr := hide' (freeC HS1.out hn HTN.out)
      have hfi := freeI_in t n
      have hidb : ¬ (4096 : Int) < (⟨id.toArray⟩ : ByteArray).size := by rw [size_l]; omega
      have IDL : Hid ((⟨id.toArray⟩ : ByteArray).data.toList = id) := by unfold Hid; simp
      have hids : (⟨id.toArray⟩ : ByteArray).size ≤ 1000000 := by rw [size_l]; omega
      generalize freeI t n = fi at CFr hfi PT
      generalize (⟨id.toArray⟩ : ByteArray) = idb at CI hidb IDL hids
      go_wp2_with fail
      refine (CI.out _).mono ?_
      rintro x w9 ⟨rfl, ew⟩
      rw [ew]
      clear ew w9 CI
      go_wp2_with fail
      refine CFr.out.mono ?_
      rintro x w2 ⟨rfl, b2⟩
      have B2 := hide' b2
      clear b2 CFr
      by_cases hf : fi < 0
      · rw [if_pos hf] at PT
        have hfd : decide (0 ≤ fi) = false := by simp; omega
        go_wp2_with fail
        go_ret
        rw [PT.out]
        exact ⟨⟨rfl, o, stoS_below HS1.out B2.out, G1.out.trans (growT_below B2.out)⟩, 0, bd_mono BB.out (by omega)⟩
      · rw [if_neg hf] at PT
        obtain ⟨no, rfl⟩ : ∃ no : Nat, fi = (no : Int) := ⟨fi.toNat, by omega⟩
        rw [Int.toNat_natCast] at PT
        have CA := hide' (putAtC (stoS_below HS1.out B2.out) m BB.out no idb hids (.slice ua od.length uc) od (bytS_grow BY.out (growT_below B2.out)) hod (by rw [IDL.out]; have := HM.out no; omega) TT.out htl)
        rw [IDL.out] at CA
        have G2 := hide' (G1.out.trans (growT_below (lb := lb) (tm := tm) (o := o) B2.out))
        have hfd : decide (0 ≤ (no : Int)) = true := by simp
        clear HS1 BY G1 hf hfi
        go_wp2_with fail
        refine CA.out.mono ?_
        rintro x w3 ⟨⟨rfl, o3, S3, g3⟩, b3⟩
        have HS3 := hide' S3
        have G3 := hide' (G2.out.trans g3)
        have BB3 := hide' b3
        clear S3 g3 b3 CA G2
        go_wp2_with fail
        go_ret
        rw [PT.out]
        exact ⟨⟨rfl, o3, HS3.out, G3.out⟩, no, bd_mono BB3.out (by omega)⟩
  · have he' : (oe == 0) = false := by simpa using he
    rw [if_pos he] at PT
    go_wp2_with fail
    go_ret
    rw [PT.out]
    exact ⟨⟨rfl, o, HS1.out, G1.out⟩, 0, bd_mono BB.out (by omega)⟩
end Go.Proofs.YtibjcofbhldenaaGreatDoor
namespace Go.Proofs.YtibjcofbhldenaaGreatDoor
open Go.RowKit
/-! names of files -/
theorem hx_inj : ∀ a b : Fin 16, hxB a.1 = hxB b.1 → a = b := by decide +kernel
theorem hx_good : ∀ a : Fin 16, goodC (hxB a.1) = true := by decide +kernel
theorem name_is {k : Nat} (h : k < 4096) : nameN (k : Int) = pathL k := by
  unfold nameN pathB
  rw [if_neg (by omega)]
  simp
theorem name_inj {a b : Nat} (ha : a < 4096) (hb : b < 4096) (h : nameN (a : Int) = nameN (b : Int)) : a = b := by
  rw [name_is ha, name_is hb] at h
  unfold pathL at h
  simp only [List.cons.injEq, true_and, and_true] at h
  obtain ⟨h1, h2, h3, h4⟩ := h
  have e1 := hx_inj ⟨a / 64 / 16, by omega⟩ ⟨b / 64 / 16, by omega⟩ h1
  have e2 := hx_inj ⟨a / 64 % 16, by omega⟩ ⟨b / 64 % 16, by omega⟩ h2
  have e3 := hx_inj ⟨a % 64 / 16, by omega⟩ ⟨b % 64 / 16, by omega⟩ h3
  have e4 := hx_inj ⟨a % 64 % 16, by omega⟩ ⟨b % 64 % 16, by omega⟩ h4
  simp only [Fin.mk.injEq] at e1 e2 e3 e4
  omega
theorem name_good {k : Nat} (h : k < 4096) : goodN (nameN (k : Int)) = true := by
  rw [name_is h]
  unfold pathL goodN
  have g1 := hx_good ⟨k / 64 / 16, by omega⟩
  have g2 := hx_good ⟨k / 64 % 16, by omega⟩
  have g3 := hx_good ⟨k % 64 / 16, by omega⟩
  have g4 := hx_good ⟨k % 16, by omega⟩
  have g5 : goodC 111 = true := by decide
  have g6 : goodC 47 = true := by decide
  simp only at g1 g2 g3 g4
  simp [g1, g2, g3, g4, g5, g6]
theorem name_lg {k : Nat} (h : k < 4096) : nameN (k : Int) ≠ lgN := by rw [name_is h]; unfold pathL lgN; simp
theorem name_nw {k : Nat} (h : k < 4096) : nameN (k : Int) ≠ nwN := by rw [name_is h]; unfold pathL nwN; simp
theorem lg_good : goodN lgN = true := by decide +kernel
theorem nw_good : goodN nwN = true := by decide +kernel
theorem lg_nw : lgN ≠ nwN := by decide
theorem in_list {s : Dk} (h : Ok3 s) {nm : Nm} (hv : vw s nm = none) : ¬ nm ∈ s.list := by
  unfold Dk.list
  rw [if_neg (by rw [fl_down h.fl]; decide)]
  intro hm
  obtain ⟨p, hp, e⟩ := List.mem_map.1 hm
  exact at_none (vw_none.1 hv) p hp e
theorem crT {st : LSt} (h : Ok3 st.1) {nm : Nm} (hg : goodN nm = true) (hv : vw st.1 nm = none) :
    (createT nm st).2 = 0 ∧ (createT nm st).1.2 = st.2 ∧ Ok3 (createT nm st).1.1 ∧ ∀ x, vw (createT nm st).1.1 x = if x = nm then some [] else vw st.1 x := by
  unfold createT
  rw [if_neg (in_list h hv)]
  obtain ⟨h1, h2⟩ := st_create h hg hv
  exact ⟨h1, rfl, ok3_step h _, h2⟩
theorem fiT {st : LSt} (h : Ok3 st.1) {nm : Nm} (hg : goodN nm = true) {b : List UInt8} (hv : vw st.1 nm = some b) (d : List UInt8) :
    (fileT nm d st).1.2 = st.2 ∧ Ok3 (fileT nm d st).1.1 ∧ (((fileT nm d st).2 = 92 ∧ ∀ x, vw (fileT nm d st).1.1 x = vw st.1 x) ∨ ((fileT nm d st).2 = 0 ∧ ∀ x, vw (fileT nm d st).1.1 x = if x = nm then some (b ++ d) else vw st.1 x)) := by
  obtain ⟨s, c⟩ := st
  simp only at h hv ⊢
  have o1 := ok3_step h ⟨2, nm, [], d⟩
  rcases st_append h hg hv d with ⟨e1, v1⟩ | ⟨e1, v1⟩
  · have e : fileT nm d (s, c) = opT ⟨2, nm, [], d⟩ (s, c) := by
      unfold fileT
      exact runT_bad (show (s.step ⟨2, nm, [], d⟩).2 ≠ 0 by rw [e1]; decide)
    rw [e]
    exact ⟨rfl, o1, .inl ⟨e1, v1⟩⟩
  · have hv1 : vw (s.step ⟨2, nm, [], d⟩).1 nm = some (b ++ d) := by rw [v1, if_pos rfl]
    obtain ⟨e2, v2⟩ := st_sync o1 hg hv1
    have o2 := ok3_step o1 ⟨3, nm, [], []⟩
    obtain ⟨e3, v3⟩ := st_names o2
    have o3 := ok3_step o2 ⟨4, [], [], []⟩
    have e : fileT nm d (s, c) = (((((s.step ⟨2, nm, [], d⟩).1.step ⟨3, nm, [], []⟩).1.step ⟨4, [], [], []⟩).1, c), 0) := by
      unfold fileT
      rw [runT_ok (show (opT ⟨2, nm, [], d⟩ (s, c)).2 = 0 from e1)]
      show runT _ ((s.step ⟨2, nm, [], d⟩).1, c) = _
      rw [runT_ok (show (opT ⟨3, nm, [], []⟩ ((s.step ⟨2, nm, [], d⟩).1, c)).2 = 0 from e2)]
      show runT _ (((s.step ⟨2, nm, [], d⟩).1.step ⟨3, nm, [], []⟩).1, c) = _
      rw [runT_ok (show (opT ⟨4, [], [], []⟩ (((s.step ⟨2, nm, [], d⟩).1.step ⟨3, nm, [], []⟩).1, c)).2 = 0 from e3)]
      rfl
    rw [e]
    exact ⟨rfl, o3, .inr ⟨rfl, fun x => by rw [v3, v2, v1]⟩⟩
theorem adT {st : LSt} (h : Ok3 st.1) {b : List UInt8} (hv : vw st.1 lgN = some b) (op no : Int) (id : List UInt8) :
    Ok3 (addT op no id st).1.1 ∧ (((addT op no id st).2 ≠ 0 ∧ (addT op no id st).1.2 = st.2 ∧ ∀ x, vw (addT op no id st).1.1 x = vw st.1 x) ∨ ((addT op no id st).2 = 0 ∧ (addT op no id st).1.2 = st.2 + 1 ∧ ∃ b', ∀ x, vw (addT op no id st).1.1 x = if x = lgN then some b' else vw st.1 x)) := by
  obtain ⟨s, c⟩ := st
  simp only at h hv ⊢
  unfold addT
  split
  · rename_i he
    generalize (encOf c op no id).1 = r
    have o1 := ok3_step h ⟨2, lgN, [], r⟩
    rcases st_append h lg_good hv r with ⟨e1, v1⟩ | ⟨e1, v1⟩
    · have e : addR r (s, c) = opT ⟨2, lgN, [], r⟩ (s, c) := by
        unfold addR
        exact runT_bad (show (s.step ⟨2, lgN, [], r⟩).2 ≠ 0 by rw [e1]; decide)
      rw [e]
      exact ⟨o1, .inl ⟨show (s.step ⟨2, lgN, [], r⟩).2 ≠ 0 by rw [e1]; decide, rfl, v1⟩⟩
    · have hv1 : vw (s.step ⟨2, lgN, [], r⟩).1 lgN = some (b ++ r) := by rw [v1, if_pos rfl]
      obtain ⟨e2, v2⟩ := st_sync o1 lg_good hv1
      have o2 := ok3_step o1 ⟨3, lgN, [], []⟩
      have e : addR r (s, c) = ((((s.step ⟨2, lgN, [], r⟩).1.step ⟨3, lgN, [], []⟩).1, c + 1), 0) := by
        unfold addR
        rw [runT_ok (show (opT ⟨2, lgN, [], r⟩ (s, c)).2 = 0 from e1)]
        show runT _ ((s.step ⟨2, lgN, [], r⟩).1, c) = _
        rw [runT_ok (show (setT (c + 1) ((s.step ⟨2, lgN, [], r⟩).1, c)).2 = 0 from rfl)]
        show runT _ ((s.step ⟨2, lgN, [], r⟩).1, c + 1) = _
        rw [runT_ok (show (opT ⟨3, lgN, [], []⟩ ((s.step ⟨2, lgN, [], r⟩).1, c + 1)).2 = 0 from e2)]
        rfl
      rw [e]
      exact ⟨o2, .inr ⟨rfl, rfl, b ++ r, fun x => by rw [v2, v1]⟩⟩
  · rename_i he
    exact ⟨h, .inl ⟨he, rfl, fun _ => rfl⟩⟩
theorem rwT {st : LSt} (h : Ok3 st.1) {b : List UInt8} (hv : vw st.1 lgN = some b) (hn : vw st.1 nwN = none) (rs : RL) :
    Ok3 (rewT rs st).1.1 ∧ ∃ b', ∀ x, vw (rewT rs st).1.1 x = if x = lgN then some b' else vw st.1 x := by
  obtain ⟨s, c⟩ := st
  simp only at h hv hn ⊢
  have same : ∃ b', ∀ x, vw s x = if x = lgN then some b' else vw s x := ⟨b, fun x => by
    by_cases hx : x = lgN
    · rw [if_pos hx, hx, hv]
    · rw [if_neg hx]⟩
  unfold rewT
  split
  · generalize (encG 0 rs).1 = r
    obtain ⟨e1, v1⟩ := st_create h nw_good hn
    have o1 := ok3_step h ⟨1, nwN, [], []⟩
    have hv1 : vw (s.step ⟨1, nwN, [], []⟩).1 nwN = some [] := by rw [v1, if_pos rfl]
    have o2 := ok3_step o1 ⟨2, nwN, [], r⟩
    rcases st_append o1 nw_good hv1 r with ⟨e2, v2⟩ | ⟨e2, v2⟩
    · have hf : fillT r ((s.step ⟨1, nwN, [], []⟩).1, c) = opT ⟨2, nwN, [], r⟩ ((s.step ⟨1, nwN, [], []⟩).1, c) := by
        unfold fillT
        exact runT_bad (show ((s.step ⟨1, nwN, [], []⟩).1.step ⟨2, nwN, [], r⟩).2 ≠ 0 by rw [e2]; decide)
      have hv2 : vw ((s.step ⟨1, nwN, [], []⟩).1.step ⟨2, nwN, [], r⟩).1 nwN = some [] := by rw [v2]; exact hv1
      obtain ⟨e3, v3⟩ := st_remove o2 nw_good hv2
      have o3 := ok3_step o2 ⟨6, nwN, [], []⟩
      have hr : replT r ((s.step ⟨1, nwN, [], []⟩).1, c) = (((((s.step ⟨1, nwN, [], []⟩).1.step ⟨2, nwN, [], r⟩).1.step ⟨6, nwN, [], []⟩).1, c), 92) := by
        unfold replT
        rw [hf, if_neg (show (opT ⟨2, nwN, [], r⟩ ((s.step ⟨1, nwN, [], []⟩).1, c)).2 ≠ 0 from fun h0 => by have h1 : ((s.step ⟨1, nwN, [], []⟩).1.step ⟨2, nwN, [], r⟩).2 = 0 := h0; rw [e2] at h1; exact absurd h1 (by decide))]
        unfold remT
        show (_, ((s.step ⟨1, nwN, [], []⟩).1.step ⟨2, nwN, [], r⟩).2) = _
        rw [e2]
        rfl
      have e : rewR rs.length r (s, c) = (((((s.step ⟨1, nwN, [], []⟩).1.step ⟨2, nwN, [], r⟩).1.step ⟨6, nwN, [], []⟩).1, c), 92) := by
        unfold rewR
        rw [runT_ok (show (opT ⟨1, nwN, [], []⟩ (s, c)).2 = 0 from e1)]
        show runT _ ((s.step ⟨1, nwN, [], []⟩).1, c) = _
        rw [runT_bad (by rw [hr]; show (92 : Int) ≠ 0; decide), hr]
      rw [e]
      refine ⟨o3, b, fun x => ?_⟩
      simp only
      rw [v3, v2, v1]
      by_cases hx : x = nwN
      · rw [if_pos hx, hx, if_neg lg_nw.symm, hn]
      · rw [if_neg hx, if_neg hx]
        by_cases hy : x = lgN
        · rw [if_pos hy, hy, hv]
        · rw [if_neg hy]
    · have hv2 : vw ((s.step ⟨1, nwN, [], []⟩).1.step ⟨2, nwN, [], r⟩).1 nwN = some ([] ++ r) := by rw [v2, if_pos rfl]
      obtain ⟨e3, v3⟩ := st_sync o2 nw_good hv2
      have o3 := ok3_step o2 ⟨3, nwN, [], []⟩
      have hv3 : vw (((s.step ⟨1, nwN, [], []⟩).1.step ⟨2, nwN, [], r⟩).1.step ⟨3, nwN, [], []⟩).1 nwN = some ([] ++ r) := by rw [v3]; exact hv2
      obtain ⟨e4, v4⟩ := st_rename o3 nw_good lg_good lg_nw.symm hv3
      have o4 := ok3_step o3 ⟨5, nwN, lgN, []⟩
      obtain ⟨e5, v5⟩ := st_names o4
      have o5 := ok3_step o4 ⟨4, [], [], []⟩
      have hf : fillT r ((s.step ⟨1, nwN, [], []⟩).1, c) = ((((((s.step ⟨1, nwN, [], []⟩).1.step ⟨2, nwN, [], r⟩).1.step ⟨3, nwN, [], []⟩).1.step ⟨5, nwN, lgN, []⟩).1, c), 0) := by
        unfold fillT
        rw [runT_ok (show (opT ⟨2, nwN, [], r⟩ ((s.step ⟨1, nwN, [], []⟩).1, c)).2 = 0 from e2)]
        show runT _ (((s.step ⟨1, nwN, [], []⟩).1.step ⟨2, nwN, [], r⟩).1, c) = _
        rw [runT_ok (show (opT ⟨3, nwN, [], []⟩ (((s.step ⟨1, nwN, [], []⟩).1.step ⟨2, nwN, [], r⟩).1, c)).2 = 0 from e3)]
        show runT _ ((((s.step ⟨1, nwN, [], []⟩).1.step ⟨2, nwN, [], r⟩).1.step ⟨3, nwN, [], []⟩).1, c) = _
        rw [runT_ok (show (opT ⟨5, nwN, lgN, []⟩ ((((s.step ⟨1, nwN, [], []⟩).1.step ⟨2, nwN, [], r⟩).1.step ⟨3, nwN, [], []⟩).1, c)).2 = 0 from e4)]
        rfl
      have hr : replT r ((s.step ⟨1, nwN, [], []⟩).1, c) = ((((((s.step ⟨1, nwN, [], []⟩).1.step ⟨2, nwN, [], r⟩).1.step ⟨3, nwN, [], []⟩).1.step ⟨5, nwN, lgN, []⟩).1, c), 0) := by
        unfold replT
        rw [hf, if_pos rfl]
      have e : rewR rs.length r (s, c) = (((((((s.step ⟨1, nwN, [], []⟩).1.step ⟨2, nwN, [], r⟩).1.step ⟨3, nwN, [], []⟩).1.step ⟨5, nwN, lgN, []⟩).1.step ⟨4, [], [], []⟩).1, (rs.length : Int)), 0) := by
        unfold rewR
        rw [runT_ok (show (opT ⟨1, nwN, [], []⟩ (s, c)).2 = 0 from e1)]
        show runT _ ((s.step ⟨1, nwN, [], []⟩).1, c) = _
        rw [runT_ok (by rw [hr]), hr]
        show runT [setT (rs.length : Int), opT ⟨4, [], [], []⟩] ((((((s.step ⟨1, nwN, [], []⟩).1.step ⟨2, nwN, [], r⟩).1.step ⟨3, nwN, [], []⟩).1.step ⟨5, nwN, lgN, []⟩).1), c) = _
        rw [runT_ok (show (setT (rs.length : Int) _).2 = 0 from rfl)]
        show runT [opT ⟨4, [], [], []⟩] ((((((s.step ⟨1, nwN, [], []⟩).1.step ⟨2, nwN, [], r⟩).1.step ⟨3, nwN, [], []⟩).1.step ⟨5, nwN, lgN, []⟩).1), (rs.length : Int)) = _
        rw [runT_ok (show (opT ⟨4, [], [], []⟩ ((((((s.step ⟨1, nwN, [], []⟩).1.step ⟨2, nwN, [], r⟩).1.step ⟨3, nwN, [], []⟩).1.step ⟨5, nwN, lgN, []⟩).1), (rs.length : Int))).2 = 0 from e5)]
        rfl
      rw [e]
      refine ⟨o5, [] ++ r, fun x => ?_⟩
      simp only
      rw [v5, v4, v3, v2, v1]
      by_cases hx : x = lgN
      · rw [if_pos hx, if_pos hx]
      · rw [if_neg hx, if_neg hx]
        by_cases hy : x = nwN
        · rw [if_pos hy, hy, hn]
        · rw [if_neg hy, if_neg hy, if_neg hy]
  · exact ⟨h, same⟩
theorem tdT {st : LSt} (h : Ok3 st.1) {b : List UInt8} (hv : vw st.1 lgN = some b) (hn : vw st.1 nwN = none) (t : NL) :
    Ok3 (tidyT t st).1 ∧ ∃ b', ∀ x, vw (tidyT t st).1 x = if x = lgN then some b' else vw st.1 x := by
  unfold tidyT
  split
  · exact rwT h hv hn _
  · exact ⟨h, b, fun x => by
      by_cases hx : x = lgN
      · rw [if_pos hx, hx, hv]
      · rw [if_neg hx]⟩
end Go.Proofs.YtibjcofbhldenaaGreatDoor
