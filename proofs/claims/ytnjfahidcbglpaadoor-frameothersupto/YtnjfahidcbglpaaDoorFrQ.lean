/- A block of two cells that may be written; the contracts of byCoding, byLengths and byFields. -/
import Derived.Test.YtnjfahidcbglpaaDoorFrM
namespace Go.Proofs.YtnjfahidcbglpaaDoor
open Go.RowKit
/-- a block of two cells that may be written, and what they hold -/
def Duo (b : Nat) (W : World) (v0 v1 : Value) : Prop := W.cell? ⟨b, 0, none⟩ = some v0 ∧ W.cell? ⟨b, 1, none⟩ = some v1 ∧ W.frozen? ⟨b, 0, none⟩ = false ∧ W.frozen? ⟨b, 1, none⟩ = false ∧ b < W.heap.size
theorem duo_below {b : Nat} {W W' : World} {v0 v1 : Value} (h : Duo b W v0 v1) (hb : Below W.heap.size W W') : Duo b W' v0 v1 := by
  obtain ⟨h0, h1, f0, f1, hz⟩ := h
  have c : ∀ o, W'.cell? ⟨b, o, none⟩ = W.cell? ⟨b, o, none⟩ := fun o => hb.cell (p := ⟨b, o, none⟩) hz
  have f : ∀ o, W'.frozen? ⟨b, o, none⟩ = W.frozen? ⟨b, o, none⟩ := fun o => hb.frozen (p := ⟨b, o, none⟩) hz
  exact ⟨by rw [c]; exact h0, by rw [c]; exact h1, by rw [f]; exact f0, by rw [f]; exact f1, Nat.lt_of_lt_of_le hz hb.size⟩
def put2 (b : Nat) (W : World) (v0 v1 : Value) : World := (W.setCell ⟨b, 0, none⟩ v0).setCell ⟨b, 1, none⟩ v1
theorem duo_store {b : Nat} {W : World} {u0 u1 : Value} (h : Duo b W u0 u1) (v0 v1 : Value) : (put2 b W v0 v1).cell? ⟨b, 0, none⟩ = some v0 ∧ (put2 b W v0 v1).cell? ⟨b, 1, none⟩ = some v1 := by
  obtain ⟨h0, h1, _⟩ := h
  unfold put2
  refine ⟨?_, ?_⟩
  · rw [oth4 (by decide)]
    exact World.cell?_setCell_same _ _ _ h0
  · exact World.cell?_setCell_same (u := u1) _ _ _ (by rw [oth4 (by decide)]; exact h1)
theorem put2_below {w W : World} {b : Nat} (h : Below w.heap.size w W) (hb : w.heap.size ≤ b) (v0 v1 : Value) : Below w.heap.size w (put2 b W v0 v1) := (h.setCell hb _).setCell hb _
theorem duo_lit (w : World) (v0 v1 : Value) (t : TypeId) : Duo w.heap.size (w.alloc (.cells #[v0, v1] t)) v0 v1 := ⟨by simp, by simp, by simp, by simp, by simp⟩
/-- a body's end and an error as the model holds them -/
def ansV (q : Int × Int × Int) : Value := .tuple #[.agg #[.int .i64 q.1, .int .i64 q.2.1], .int .i64 q.2.2]
theorem cod_bad1 (ws : List (List UInt8)) : codOf 0 ws = (0, 0, 62) := by unfold codOf; rw [if_pos (.inl rfl)]
theorem cod_bad2 {m : Int} {ws : List (List UInt8)} (h : ¬ ws = [chunkedB]) : codOf m ws = (0, 0, 62) := by unfold codOf; rw [if_pos (.inr h)]
theorem cod_good {m : Int} (h : ¬ m = 0) : codOf m [chunkedB] = (2, 0, 0) := by unfold codOf; rw [if_neg (by simp [h])]
theorem one_of {ws : List (List UInt8)} (h : ws.length = 1) : ∃ x, ws = [x] := by
  match ws, h with
  | [x], _ => exact ⟨x, rfl⟩
set_option maxRecDepth 20000 in
set_option maxHeartbeats 2000000 in
theorem codTok (m : Int) (v : Value) (ws : List (List UInt8)) (w : World) (hv : Holds w v ws) (hl : ws.length ≤ 1048576) :
    Calls Tryd.prog 35 #[.int .i64 m, v] w fun e w' => e = .returned (ansV (codOf m ws)) ∧ Below w.heap.size w w' := by
  have b0 := below_alloc' w (.cells #[.int .i64 0, .int .i64 0] 28)
  have D0 := duo_lit w (.int .i64 0) (.int .i64 0) 28
  obtain ⟨ao, ca, b, o, rfl, hc⟩ := holds_parts (holds_mono hv b0)
  have C := hide' hc
  have B0 := hide' b0
  have H0 := hide' D0
  obtain ⟨i0, i1, f0, f1, fz⟩ := D0
  clear hv hc b0
  obtain ⟨q, eq⟩ : ∃ q, q = codOf m ws := ⟨_, rfl⟩
  rw [← eq]
  have EQ := hide' eq
  clear eq
  by_cases hm : m = 0
  · subst hm
    have R := hide' (EQ.out.trans (cod_bad1 ws))
    clear C EQ
    generalize ws.length = n at hl ⊢
    go_enter Tryd.func35, Tryd.ntmps35
    go_wp2_with fail
    exact bodyPost_ret (v := ansV (0, 0, 62)) (by simp [results, Tryd.results35, go_sem, ansV]) rfl ⟨by rw [R.out], below_alloc' w _⟩
  · have hm1 : (m == 0) = false := by simpa using hm
    by_cases h1 : ws.length = 1
    · obtain ⟨x, rfl⟩ := one_of h1
      obtain ⟨rfl, hblt, hcell⟩ := C.out (by simp)
      have cx := hcell 0 (by simp)
      simp only [List.getElem_cons_zero, Nat.add_zero, S] at cx
      have hlen : [x].length = 1 := rfl
      rw [hlen]
      clear hcell hlen h1
      by_cases hx : x = chunkedB
      · subst hx
        have R := hide' (EQ.out.trans (cod_good hm))
        unfold chunkedB at cx
        clear hm EQ C
        go_enter Tryd.func35, Tryd.ntmps35
        go_wp2_with fail
        exact bodyPost_ret (v := ansV (2, 0, 0)) (by simp [results, Tryd.results35, go_sem, ansV]) rfl ⟨by rw [R.out], below_alloc' w _⟩
      · have R := hide' (EQ.out.trans (cod_bad2 (by simpa using hx)))
        have hne := ba_eql' _ _ hx
        have hne2 : (x == chunkedB) = false := by simpa using hx
        unfold chunkedB at hne hne2
        clear hm hx EQ C
        go_enter Tryd.func35, Tryd.ntmps35
        go_wp2_with fail
        exact bodyPost_ret (v := ansV (0, 0, 62)) (by simp [results, Tryd.results35, go_sem, ansV]) rfl ⟨by rw [R.out], below_alloc' w _⟩
    · have R := hide' (EQ.out.trans (cod_bad2 (fun e => h1 (by rw [e]; rfl))))
      have t1 : ((ws.length : Int) != 1) = true := by simp; omega
      clear hm EQ C
      generalize ws.length = n at hl t1 h1 ⊢
      clear h1
      go_enter Tryd.func35, Tryd.ntmps35
      go_wp2_with fail
      exact bodyPost_ret (v := ansV (0, 0, 62)) (by simp [results, Tryd.results35, go_sem, ansV]) rfl ⟨by rw [R.out], below_alloc' w _⟩
theorem lens_nil : lensOf [] = (0, 0, 60) := by simp only [lensOf]
theorem lens_cons (x : List UInt8) (r : List (List UInt8)) : lensOf (x :: r) = if (isNum x && r.all (fun y => isNum y && decide (numF y = numF x))) = true then (if 65536 < numF x then (0, 0, 71) else (1, (numF x : Int), 0)) else (0, 0, 60) := by simp only [lensOf]
/-- the elements looked at so far tell the first one's number -/
def goodTo (x : List UInt8) (r : List (List UInt8)) (k : Nat) : Bool := isNum x && (r.take k).all (fun y => isNum y && decide (numF y = numF x))
theorem good_zero (x : List UInt8) (r : List (List UInt8)) : goodTo x r 0 = isNum x := by unfold goodTo; rw [List.take_zero, List.all_nil, Bool.and_true]
theorem good_next (x : List UInt8) (r : List (List UInt8)) (k : Nat) (h : k < r.length) : goodTo x r (k + 1) = (goodTo x r k && (isNum r[k] && decide (numF r[k] = numF x))) := by
  unfold goodTo
  rw [List.take_succ_eq_append_getElem h, List.all_append, List.all_cons, List.all_nil, Bool.and_true, Bool.and_assoc]
theorem good_num {x : List UInt8} {r : List (List UInt8)} {k : Nat} (h : goodTo x r k = true) : isNum x = true := by
  unfold goodTo at h
  rw [Bool.and_eq_true] at h
  exact h.1
theorem good_all (x : List UInt8) (r : List (List UInt8)) (k : Nat) (h : r.length ≤ k) : lensOf (x :: r) = if goodTo x r k = true then (if 65536 < numF x then (0, 0, 71) else (1, (numF x : Int), 0)) else (0, 0, 60) := by
  rw [lens_cons]; unfold goodTo; rw [List.take_of_length_le h]
/-- one round of the comparing, as the program reckons it -/
theorem good_step {p q : Nat} (g a : Bool) (x y : Int) (gx : g = true → x = (p : Int)) (ay : a = true → y = (q : Int)) : (g && a && decide (y = x)) = (g && (a && decide (q = p))) := by
  cases g with
  | false => rfl
  | true =>
    cases a with
    | false => rfl
    | true =>
      rw [gx rfl, ay rfl]
      simp only [Bool.true_and]
      exact decide_eq_decide.2 ⟨fun h => by omega, fun h => by omega⟩
theorem tailS (b off n cap : Nat) (hc : n + 1 ≤ cap) : ∃ ao, (∀ w : World, Sem.run Tryd.prog (Instr.slice 43 (.slice (some ⟨b, off, none⟩) (n + 1) cap) (some (.int .i64 1)) none none) w = .ok (.slice ao n (cap - 1)) w) ∧ (0 < n → ao = some ⟨b, off + 1, none⟩) := by
  have he : Tryd.prog.elem 43 = 9 := by kernel_rfl
  refine ⟨if cap = 1 then some ⟨b, off, none⟩ else some ⟨b, off + 1, none⟩, fun w => ?_, fun hn => if_neg (by omega)⟩
  have h := run_slice_l (P := Tryd.prog) w 43 (some ⟨b, off, none⟩) (n + 1) cap (by rw [he]; exact Tryd.underlying43) .i64 1 (by omega) (by omega)
  rw [he, Tryd.sizeOf9] at h
  simp only [Result.andThen, Int.toNat_one, sliced, Nat.add_sub_cancel, Option.map_some, Addr.add, Nat.mul_one] at h
  exact h
set_option maxRecDepth 20000 in
set_option maxHeartbeats 4000000 in
theorem lensTok (v : Value) (els : List (List UInt8)) (w : World) (hv : Holds w v els) (hcap : ∀ a n c, v = .slice a n c → n ≤ c) (hl : els.length ≤ 1048576) (hx : ∀ x ∈ els, x.length ≤ 1048576) (E : Er w) :
    Calls Tryd.prog 36 #[v] w fun e w' => e = .returned (ansV (lensOf els)) ∧ Below w.heap.size w w' := by
  have b0 := below_alloc' w (.cells #[.int .i64 0, .int .i64 0] 28)
  have D0 := duo_lit w (.int .i64 0) (.int .i64 0) 28
  have E0 := hide' (er_below E b0)
  obtain ⟨ao, ca, b, o, rfl, hc⟩ := holds_parts (holds_mono hv b0)
  have hcp := hcap _ _ _ rfl
  have B0 := hide' b0
  have H0 := hide' D0
  clear hv b0 hcap E
  cases els with
  | nil =>
    clear hc hcp E0 hx hl
    rw [lens_nil]
    have hz : ([] : List (List UInt8)).length = 0 := rfl
    rw [hz]
    obtain ⟨i0, i1, f0, f1, fz⟩ := D0
    go_enter Tryd.func36, Tryd.ntmps36
    go_wp2_with fail
    exact bodyPost_ret (v := ansV (0, 0, 60)) (by simp [results, Tryd.results36, go_sem, ansV]) rfl ⟨rfl, below_alloc' w _⟩
  | cons x r =>
    obtain ⟨rfl, hblt, hcell⟩ := hc (by simp)
    have cx := hcell 0 (by simp)
    simp only [List.getElem_cons_zero, Nat.add_zero, S] at cx
    have CR : Hid (∀ j (h : j < r.length), (w.alloc (.cells #[.int .i64 0, .int .i64 0] 28)).cell? ⟨b, o + 1 + j, none⟩ = some (S r[j])) := by
      intro j h
      have := hcell (j + 1) (by simpa using h)
      rw [List.getElem_cons_succ] at this
      rw [← this, show o + 1 + j = o + (j + 1) by omega]
    have LX := hide' (hx x (by simp))
    have LR : Hid (∀ j (h : j < r.length), r[j].length ≤ 1048576) := fun j h => hx _ (by simp)
    have GA := hide' (good_all x r)
    have GN := hide' (good_next x r)
    have GX := hide' (fun k (h : goodTo x r k = true) => good_num h)
    have GZ := hide' (good_zero x r)
    obtain ⟨q, eq⟩ : ∃ q, q = lensOf (x :: r) := ⟨_, rfl⟩
    rw [← eq] at GA ⊢
    rw [List.length_cons] at hcp hl ⊢
    obtain ⟨n, en⟩ : ∃ n, n = r.length := ⟨_, rfl⟩
    have N : Hid (r.length = n) := en.symm
    rw [N.out] at hcp hl ⊢
    obtain ⟨ta, ht, hta⟩ := tailS b o n ca hcp
    have TA := hide' hta
    have n1 : (((n + 1 : Nat) : Int) == 0) = false := by simp; omega
    obtain ⟨i0, i1, f0, f1, fz⟩ := D0
    clear hc hcell hx eq en hta
    go_enter Tryd.func36, Tryd.ntmps36
    go_wp2_with fail
    refine (numTok x (by have := LX.out; omega) _ E0.out).mono ?_
    rintro e w1 ⟨x0, rfl, XN, ⟨x00, x01⟩, b1⟩
    have B1 := hide' (bt' B0.out b1)
    have H1 := hide' (duo_below H0.out b1)
    have E1 := hide' (er_below E0.out b1)
    have CR1 : Hid (∀ j (h : j < r.length), w1.cell? ⟨b, o + 1 + j, none⟩ = some (S r[j])) := fun j h => by rw [b1.cell (p := ⟨b, o + 1 + j, none⟩) hblt]; exact CR.out j h
    have hblt1 : b < w1.heap.size := Nat.lt_of_lt_of_le hblt b1.size
    clear b1 cx i0 i1 f0 f1 fz CR hblt
    go_wp2_with fail
    go_loopw [5, 24] (fun gv i wr => ∃ (k : Nat) (g : Bool), k ≤ n ∧ i = .int .i64 k ∧ gv = .bool g ∧ Hid (g = goodTo x r k) ∧ Hid (Below w1.heap.size w1 wr)) (fun _ i _ => n - (intOf i).toNat)
    case atStart => exact ⟨0, isNum x, Nat.zero_le _, rfl, rfl, GZ.out.symm, Below.refl _ _⟩
    case round =>
      obtain ⟨k, g, hk, rfl, rfl, HG, HB⟩ := hrel
      by_cases hlt : k < n
      · have G : Hid (k < r.length) := by unfold Hid; rw [N.out]; exact hlt
        have e1 := TA.out (by omega)
        subst e1
        have ck : wr.cell? ⟨b, o + 1 + k, none⟩ = some (.string ⟨(r[k]'G.out).toArray⟩) := by
          rw [HB.out.cell (p := ⟨b, o + 1 + k, none⟩) hblt1]; exact CR1.out k G.out
        have hk2 := LR.out k G.out
        have HS := hide' (GN.out k G.out)
        rw [← HG.out] at HS
        have cN := hide' (fun W (hE : Er W) => numTok (r[k]'G.out) (by omega) W hE)
        generalize r[k]'G.out = y at ck HS cN hk2
        have hgx := hide' (fun h : g = true => XN.out (GX.out k (HG.out.symm.trans h)))
        clear HG
        go_wp2_with fail
        refine (cN.out _ (er_below E1.out HB.out)).mono ?_
        rintro e w2 ⟨y0, rfl, YN, ⟨y00, y01⟩, b2⟩
        have HB2 := hide' (bt' HB.out b2)
        have ST := hide' (good_step g (isNum y) x0 y0 hgx.out YN.out)
        rw [← HS.out] at ST
        generalize isNum y = a at ST
        clear b2 ck HS cN HB YN hgx
        cases g with
        | false =>
          go_wp2_with fail
          go_roundw
          case rel => exact ⟨k + 1, false, by omega, by go_num, rfl, ST.out, HB2⟩
          case measure => simp [intOf]; omega
        | true =>
          cases a with
          | false =>
            go_wp2_with fail
            go_roundw
            case rel => exact ⟨k + 1, false, by omega, by go_num, rfl, ST.out, HB2⟩
            case measure => simp [intOf]; omega
          | true =>
            by_cases hyx : y0 = x0
            · subst hyx
              go_wp2_with fail
              go_roundw
              case rel => exact ⟨k + 1, true, by omega, by go_num, rfl, by unfold Hid; rw [← ST.out]; simp, HB2⟩
              case measure => simp [intOf]; omega
            · have hyx1 : (y0 == x0) = false := by simpa using hyx
              have hyx2 := hide' hyx
              clear hyx
              go_wp2_with fail
              go_roundw
              case rel => exact ⟨k + 1, false, by omega, by go_num, rfl, by unfold Hid; rw [← ST.out, decide_eq_false hyx2.out]; rfl, HB2⟩
              case measure => simp [intOf]; omega
      · have RA := hide' (GA.out k (by rw [N.out]; omega))
        rw [← HG.out] at RA
        have hgx := hide' (fun h : g = true => XN.out (GX.out k (HG.out.symm.trans h)))
        have B9 := hide' (bt' B1.out HB.out)
        have H9 := hide' (duo_below H1.out HB.out)
        obtain ⟨i0, i1, f0, f1, fz⟩ := H9.out
        clear HG HB
        cases g with
        | false =>
          rw [if_neg (by decide)] at RA
          go_wp2_with fail
          obtain ⟨q0, q1⟩ := duo_store H9.out (.int .i64 0) (.int .i64 0)
          have qb := put2_below B9.out (Nat.le_refl _) (.int .i64 0) (.int .i64 0)
          unfold put2 at q0 q1 qb
          exact bodyPost_ret (v := ansV (0, 0, 60)) (by simp [results, Tryd.results36, go_sem, q0, q1, ansV]) rfl ⟨by rw [RA.out], qb⟩
        | true =>
          have ex := hgx.out rfl
          rw [if_pos rfl] at RA
          by_cases h6 : 65536 < numF x
          · rw [if_pos h6] at RA
            have x6 : 65536 < x0 := by omega
            clear hgx ex h6
            go_wp2_with fail
            obtain ⟨q0, q1⟩ := duo_store H9.out (.int .i64 0) (.int .i64 0)
            have qb := put2_below B9.out (Nat.le_refl _) (.int .i64 0) (.int .i64 0)
            unfold put2 at q0 q1 qb
            exact bodyPost_ret (v := ansV (0, 0, 71)) (by simp [results, Tryd.results36, go_sem, q0, q1, ansV]) rfl ⟨by rw [RA.out], qb⟩
          · rw [if_neg h6, ← ex] at RA
            have x6 : x0 ≤ 65536 := by omega
            clear hgx ex h6
            go_wp2_with fail
            obtain ⟨q0, q1⟩ := duo_store H9.out (.int .i64 1) (.int .i64 x0)
            have qb := put2_below B9.out (Nat.le_refl _) (.int .i64 1) (.int .i64 x0)
            unfold put2 at q0 q1 qb
            exact bodyPost_ret (v := ansV (1, x0, 0)) (by simp [results, Tryd.results36, go_sem, q0, q1, ansV]) rfl ⟨by rw [RA.out], qb⟩
end Go.Proofs.YtnjfahidcbglpaaDoor
