/- The contracts of Get and of the document's Get. Plain: lifetimes, ages and judgements in the document's words. The contracts of fresh's functions below Lifetime and Age. -/
import Derived.Test.YtlhhcpbfjjhbfabDoorBo
import Derived.Test.YtlhhcpbfjjhbfabDoorShelfB
import Derived.Test.YtlhhcpbfjjhbfabDoorBm
import Derived.Test.YtlhhcpbfjjhbfabDoorKnS
import Derived.Test.YtlhhcpbfjjhbfabDoorDaJ
namespace Go.Proofs.YtlhhcpbfjjhbfabDoor
open Go.RowKit
theorem Tryd.Builder_Extra_156 : Builder.Extra Tryd.prog Tryd.lays156_ren where
  sizeBuilder := by kernel_rfl
  liesBuilder := by kernel_rfl
  t5 := Tryd.underlying5
  a5 := Tryd.isAgg5
  z5 := Tryd.sizeOf5
  v5 := Tryd.zeroValue5
  infoByte := by kernel_rfl
  cellsByte := by kernel_rfl
  sizeByte := by kernel_rfl
  neB5 := by decide
def joinOf (vs : List (List UInt8)) : List UInt8 := Lib.join vs [44, 32]
theorem tail_len (r : List (List UInt8)) : (Lib.joinTail [44, 32] r).length ≤ 2 * bulkT r := by
  induction r with
  | nil => simp [Lib.joinTail]
  | cons x r ih =>
    have e : Lib.joinTail [44, 32] (x :: r) = [44, 32] ++ x ++ Lib.joinTail [44, 32] r := by simp [Lib.joinTail]
    rw [e]
    simp only [List.length_append, List.length_cons, List.length_nil, bulkT]
    omega
theorem join_len (vs : List (List UInt8)) : (joinOf vs).length ≤ 2 * bulkT vs := by
  cases vs with
  | nil => simp [joinOf, Lib.join_nil]
  | cons x r =>
    unfold joinOf
    rw [Lib.join_cons, List.length_append]
    have := tail_len r
    simp only [bulkT]
    omega
theorem join_zero (vs : List (List UInt8)) : joinOf (vs.take 0) = [] := by simp [joinOf, Lib.join_nil]
theorem join_first (vs : List (List UInt8)) (h : 0 < vs.length) : joinOf (vs.take 1) = vs[0] := by
  cases vs with
  | nil => simp at h
  | cons x r => simp [joinOf, Lib.join_one]
theorem join_next (vs : List (List UInt8)) (k : Nat) (h : k < vs.length) (hk : 0 < k) : joinOf (vs.take (k + 1)) = joinOf (vs.take k) ++ [44, 32] ++ vs[k] := by
  cases vs with
  | nil => simp at h
  | cons x r =>
    obtain ⟨m, rfl⟩ : ∃ m, k = m + 1 := ⟨k - 1, by omega⟩
    unfold joinOf
    rw [List.take_succ_cons, List.take_succ_cons, Lib.join_cons, Lib.join_cons, Lib.joinTail_take_succ [44, 32] r m (r[m]'(by simpa using h)) (List.getElem?_eq_getElem _)]
    simp
theorem ba_of {s : ByteArray} {l : List UInt8} (h : s.data.toList = l) : s = ⟨l.toArray⟩ := by cases s; simp at h; simp [← h]
theorem joinC (w1 wr : World) (F : List (List UInt8)) (u : Value) (hown : OwnS w1 u F wr) (hlen : bulkT F ≤ 1048576) :
    Calls Tryd.prog 52 #[u, .string ⟨#[44, 32]⟩] wr fun e w' => e = .returned (.string ⟨(joinOf F).toArray⟩) ∧ Below wr.heap.size wr w' := by
  have hF := bulkT_len F
  have hj := join_len F
  have em : (F.map (fun l => (⟨l.toArray⟩ : ByteArray))).map (·.data.toList) = F := by
    rw [List.map_map]
    conv => rhs; rw [← List.map_id F]
    exact List.map_congr_left (fun l _ => by simp)
  obtain ⟨hl, h1 | ⟨g, cap, cur, rfl, hg, hh, hr⟩⟩ := hown.1
  · obtain ⟨rfl, hn⟩ := h1
    obtain rfl : F = [] := List.eq_nil_of_length_eq_zero hn
    refine (Any.strings_Join_none Tryd.lays156 Tryd.Builder_Extra_156 none 0 ⟨#[44, 32]⟩ wr).mono ?_
    rintro e w' ⟨rfl, rfl⟩
    exact ⟨rfl, Below.refl _ _⟩
  · have hlt := hown.1.lt g rfl
    have c := Any.strings_Join Tryd.lays156 Tryd.Builder_Extra_156 g 0 cap (F.map (fun l => (⟨l.toArray⟩ : ByteArray))) ⟨#[44, 32]⟩ wr (by
      intro j x hx
      have h2 : j < F.length := by
        have := (List.getElem?_eq_some_iff.1 hx).1
        simpa using this
      rw [Nat.zero_add, hown.1.cellAt j (by omega)]
      rw [List.getElem?_map, List.getElem?_eq_getElem h2] at hx ⊢
      simp only [Option.map_some, Option.some.injEq] at hx ⊢
      rw [← hx]; rfl) hlt.2 (by rw [List.length_map]; omega) (by rw [List.length_map]; exact hr.1) (by rw [em]; show (joinOf F).length ≤ _; omega)
    rw [em, List.length_map] at c
    exact c
set_option maxHeartbeats 1000000 in
theorem getTok (v : Value) (fs : FL) (nm : List UInt8) (w : World) (hv : HoldsF w v fs) (hb : bulkF fs ≤ 1048576) (hn : nm.length ≤ 1048576) :
    Calls Tryd.prog 35 #[v, .string ⟨nm.toArray⟩] w fun e w' => e = .returned (.tuple #[.string ⟨(joinOf (valsOf fs nm)).toArray⟩, .bool (decide (0 < (valsOf fs nm).length))]) ∧ Below w.heap.size w w' := by
  have hfl := bulkF_len fs
  have cV := hide' (valuesTok v fs nm w hv (fun f hf => by have := bulkF_mem fs f hf; omega) (by omega) (by omega))
  have hbv := bulk_vals fs nm
  have hlv := bulkT_len (valsOf fs nm)
  clear hv
  generalize valsOf fs nm = vs at cV hbv hlv ⊢
  obtain ⟨jv, ej⟩ : ∃ jv, jv = joinOf vs := ⟨_, rfl⟩
  have EJ := hide' ej
  rw [← ej]
  clear ej
  go_enter Tryd.func35, Tryd.ntmps35
  go_wp2_with fail
  refine cV.out.mono ?_
  rintro e w1 ⟨u, rfl, ho⟩
  have cJ := hide' (joinC w w1 vs u ho (by omega))
  obtain ⟨ao, ca, b, o, hu, _⟩ := holds_parts (holds_own ho)
  have B1 := hide' ho.2
  rw [hu] at cJ ⊢
  clear ho cV hu
  rw [← EJ.out] at cJ
  go_wp2_with fail
  refine cJ.out.mono ?_
  rintro e w2 ⟨rfl, b2⟩
  have B2 := hide' (bt' B1.out b2)
  clear b2 cJ B1
  go_wp2_with fail
  go_ret2
  exact ⟨rfl, B2.out⟩
end Go.Proofs.YtlhhcpbfjjhbfabDoor
namespace Go.Proofs.YtlhhcpbfjjhbfabDoor
open Go.RowKit
def cN (n m : Int) : Int := min (max n 0) m
def sN (a b : Int) : Int := max (b - a) 0
def dtN (d got : Int) : Int := if d < 0 then cN got 253402300799 else d
def negS (s : Int) : Bool := decide (s = 404) || (decide (s = 405) || (decide (s = 410) || (decide (s = 414) || decide (s = 501))))
def untN (dD dE got : Int) : Int := if dE < 0 then 0 else min (sN (dtN dD got) dE) 2147483648
def gueN (dD dM got pmin pmax ppc : Int) : Int :=
  if dM < 0 ∨ dtN dD got < dM then min (cN pmin 2147483648) (cN pmax 2147483648)
  else min (max ((dtN dD got - dM) * cN ppc 100 / 100) (cN pmin 2147483648)) (cN pmax 2147483648)
def lifeN (smx mx : Int) (hE : Bool) (dD dE dM s got pmin pmax pneg ppc : Int) : Int :=
  if smx ≠ -1 then smx else if mx ≠ -1 then mx else if hE = true then untN dD dE got
  else if negS s = true then cN pneg 2147483648 else gueN dD dM got pmin pmax ppc
def ageN (dD ag asked got now : Int) : Int :=
  max (sN (dtN dD got) (cN got 253402300799)) (max ag 0 + sN (cN asked 253402300799) (cN got 253402300799)) + sN (cN got 253402300799) (cN now 253402300799)
def judN (cnc dnc : Bool) (cma cmf cms : Int) (must : Bool) (smx life age : Int) : Int :=
  if (cnc || dnc) = true then 2 else if cma ≠ -1 ∧ cma < age then 2 else if cmf ≠ -1 ∧ life - age < cmf then 2
  else if 0 < life - age then 0 else if must = true ∨ smx ≠ -1 then 2 else if cms ≠ -1 ∧ -(life - age) ≤ cms then 1 else 2
theorem cN_in (n : Int) {m : Int} (h : 0 ≤ m) : 0 ≤ cN n m ∧ cN n m ≤ m := by unfold cN; omega
theorem sN_in (a b : Int) : 0 ≤ sN a b := by unfold sN; omega
theorem dtN_in (d got : Int) (h : d ≤ 253402300799) : 0 ≤ dtN d got ∧ dtN d got ≤ 253402300799 := by
  unfold dtN
  have := cN_in got (m := 253402300799) (by omega)
  split <;> omega
theorem untN_in (dD dE got : Int) : 0 ≤ untN dD dE got ∧ untN dD dE got ≤ 2147483648 := by
  unfold untN
  have := sN_in (dtN dD got) dE
  split <;> omega
theorem gueN_in (dD dM got pmin pmax ppc : Int) : 0 ≤ gueN dD dM got pmin pmax ppc ∧ gueN dD dM got pmin pmax ppc ≤ 2147483648 := by
  have h1 := cN_in pmin (m := 2147483648) (by omega)
  have h2 := cN_in pmax (m := 2147483648) (by omega)
  unfold gueN
  split
  · omega
  · generalize (dtN dD got - dM) * cN ppc 100 / 100 = x
    omega
theorem lifeN_in (smx mx : Int) (hE : Bool) (dD dE dM s got pmin pmax pneg ppc : Int) (h1 : -1 ≤ smx ∧ smx ≤ 2147483648) (h2 : -1 ≤ mx ∧ mx ≤ 2147483648) : 0 ≤ lifeN smx mx hE dD dE dM s got pmin pmax pneg ppc ∧ lifeN smx mx hE dD dE dM s got pmin pmax pneg ppc ≤ 2147483648 := by
  have a := untN_in dD dE got
  have b := gueN_in dD dM got pmin pmax ppc
  have c := cN_in pneg (m := 2147483648) (by omega)
  unfold lifeN
  repeat' split
  all_goals omega
theorem ageN_in (dD ag asked got now : Int) (h : dD ≤ 253402300799) (ha : ag ≤ 2147483648) : 0 ≤ ageN dD ag asked got now ∧ ageN dD ag asked got now ≤ 600000000000 := by
  have h1 := cN_in asked (m := 253402300799) (by omega)
  have h2 := cN_in got (m := 253402300799) (by omega)
  have h3 := cN_in now (m := 253402300799) (by omega)
  have h4 := dtN_in dD got h
  unfold ageN sN
  omega
/-- an entry grows older by just what passes -/
theorem ageN_more (dD ag asked got now more : Int) (h0 : 0 ≤ now) (h1 : got ≤ now) (h2 : 0 ≤ more) (h3 : now ≤ 68719476736) (h4 : more ≤ 68719476736) : ageN dD ag asked got (now + more) = ageN dD ag asked got now + more := by
  unfold ageN sN cN
  omega
theorem ageN_mono (dD ag asked got now more : Int) (h2 : 0 ≤ more) : ageN dD ag asked got now ≤ ageN dD ag asked got (now + more) := by
  unfold ageN sN cN
  omega
theorem judN_in (cnc dnc : Bool) (cma cmf cms : Int) (must : Bool) (smx life age : Int) : 0 ≤ judN cnc dnc cma cmf cms must smx life age ∧ judN cnc dnc cma cmf cms must smx life age ≤ 2 := by
  unfold judN
  repeat' split
  all_goals omega
theorem judN_mono (cnc dnc : Bool) (cma cmf cms : Int) (must : Bool) (smx life age age2 : Int) (h : age ≤ age2) : judN cnc dnc cma cmf cms must smx life age ≤ judN cnc dnc cma cmf cms must smx life age2 := by
  unfold judN
  by_cases h1 : (cnc || dnc) = true
  · rw [if_pos h1, if_pos h1]; omega
  rw [if_neg h1, if_neg h1]
  by_cases h2 : cma ≠ -1 ∧ cma < age
  · rw [if_pos h2, if_pos (by omega)]; omega
  rw [if_neg h2]
  by_cases h3 : cmf ≠ -1 ∧ life - age < cmf
  · rw [if_pos h3]
    split
    · omega
    · rw [if_pos (by omega)]; omega
  rw [if_neg h3]
  by_cases h4 : 0 < life - age
  · rw [if_pos h4]
    repeat' split
    all_goals omega
  rw [if_neg h4]
  by_cases h5 : must = true ∨ smx ≠ -1
  · rw [if_pos h5]
    repeat' split
    all_goals first | omega | (rename_i h; exact absurd h5 h)
  rw [if_neg h5]
  by_cases h6 : cms ≠ -1 ∧ -(life - age) ≤ cms
  · rw [if_pos h6]
    repeat' split
    all_goals omega
  · rw [if_neg h6]
    repeat' split
    all_goals omega
/-- what is served: what the law holds of it -/
theorem judN_served (cnc dnc : Bool) (cma cmf cms : Int) (must : Bool) (smx life age : Int) (h : judN cnc dnc cma cmf cms must smx life age ≠ 2) :
    (cnc || dnc) = false ∧ ¬ (cma ≠ -1 ∧ cma < age) ∧ ¬ (cmf ≠ -1 ∧ life - age < cmf) ∧ (judN cnc dnc cma cmf cms must smx life age = 0 ∧ age < life ∨ judN cnc dnc cma cmf cms must smx life age = 1 ∧ life ≤ age ∧ must = false ∧ smx = -1 ∧ age - life ≤ cms) := by
  unfold judN at h ⊢
  by_cases h1 : (cnc || dnc) = true
  · rw [if_pos h1] at h; exact absurd rfl h
  rw [if_neg h1] at h ⊢
  refine ⟨by simpa using h1, ?_⟩
  by_cases h2 : cma ≠ -1 ∧ cma < age
  · rw [if_pos h2] at h; exact absurd rfl h
  rw [if_neg h2] at h ⊢
  refine ⟨h2, ?_⟩
  by_cases h3 : cmf ≠ -1 ∧ life - age < cmf
  · rw [if_pos h3] at h; exact absurd rfl h
  rw [if_neg h3] at h ⊢
  refine ⟨h3, ?_⟩
  by_cases h4 : 0 < life - age
  · rw [if_pos h4]; exact .inl ⟨rfl, by omega⟩
  rw [if_neg h4] at h ⊢
  by_cases h5 : must = true ∨ smx ≠ -1
  · rw [if_pos h5] at h; exact absurd rfl h
  rw [if_neg h5] at h ⊢
  by_cases h6 : cms ≠ -1 ∧ -(life - age) ≤ cms
  · rw [if_pos h6]
    refine .inr ⟨rfl, by omega, ?_, ?_, by omega⟩
    · cases must with
      | true => exact absurd (.inl rfl) h5
      | false => rfl
    · rcases Int.decEq smx (-1) with h | h
      · exact absurd (.inr h) h5
      · exact h
  · rw [if_neg h6] at h; exact absurd rfl h
/-- may it be stored -/
def okS (s smx mx : Int) (hE : Bool) : Bool := (decide (s = 200) || (decide (s = 203) || (decide (s = 300) || decide (s = 301)))) || (((decide (s = 302) || decide (s = 307)) && (decide (smx ≠ -1) || (decide (mx ≠ -1) || hE))) || negS s)
def stoN (get : Bool) (s smx mx : Int) (hE cns dns prv hA pb must star hR : Bool) : Bool :=
  get && (okS s smx mx hE && (!cns && (!dns && (!prv && ((!hA || (pb || (must || decide (smx ≠ -1)))) && (!star && !(hR && decide (200 ≤ s ∧ s ≤ 299))))))))
end Go.Proofs.YtlhhcpbfjjhbfabDoor
namespace Go.Proofs.YtlhhcpbfjjhbfabDoor
open Go.RowKit
/-- what date.Parse needs of the world -/
def EvD (w : World) : Prop := Vars w ∧ MaxVD w
theorem evD_below {w w' : World} (h : EvD w) (b : Below w.heap.size w w') : EvD w' := ⟨h.1.below b, h.2.below b⟩
/-- d is the second that the text says, -1 where it says none -/
def DtP (l : List UInt8) (d : Int) : Prop := -1 ≤ d ∧ d ≤ 253402300799 ∧ ∃ v e : Int, ((d < 0 ∧ v = 0 ∧ e = 20) ∨ (0 ≤ d ∧ v = d ∧ e = 0)) ∧ Ans ⟨l.toArray⟩ v e
theorem max_ifF (x y : Int) : (if x < y then y else x) = max x y := by
  by_cases h : x < y
  · rw [if_pos h]; omega
  · rw [if_neg h]; omega
theorem cutFC (x y : Int) (w : World) :
    Calls Tryd.prog 32 #[.int .i64 x, .int .i64 y] w fun e w' => e = .returned (.int .i64 (cN x y)) ∧ w' = w := by
  go_enter Tryd.func32, Tryd.ntmps32
  go_wp2_with fail
  go_ret
  exact ⟨by first | rfl | (congr 2; unfold cN; omega), rfl⟩
theorem cutTimeFC (x : Int) (w : World) :
    Calls Tryd.prog 43 #[.int .i64 x] w fun e w' => e = .returned (.int .i64 (cN x 253402300799)) ∧ w' = w := by
  have c := hide' (cutFC x 253402300799)
  generalize cN x 253402300799 = r at c ⊢
  go_enter Tryd.func43, Tryd.ntmps43
  go_wp2_with fail
  refine (c.out _).mono ?_
  rintro e w9 ⟨rfl, ew⟩
  rw [ew]
  clear ew w9
  go_wp2_with fail
  go_ret
  exact ⟨rfl, rfl⟩
theorem sinceFC (x y : Int) (w : World) (h1 : 0 ≤ x ∧ x ≤ 253402300799) (h2 : 0 ≤ y ∧ y ≤ 253402300799) :
    Calls Tryd.prog 44 #[.int .i64 x, .int .i64 y] w fun e w' => e = .returned (.int .i64 (sN x y)) ∧ w' = w := by
  obtain ⟨x0, x1⟩ := h1
  obtain ⟨y0, y1⟩ := h2
  go_enter Tryd.func44, Tryd.ntmps44
  go_wp2_with fail
  go_ret
  exact ⟨by first | rfl | (congr 2; unfold sN; omega), rfl⟩
theorem negFC (s : Int) (w : World) :
    Calls Tryd.prog 31 #[.int .i64 s] w fun e w' => e = .returned (.bool (negS s)) ∧ w' = w := by
  by_cases h1 : s = 404
  · subst h1
    go_enter Tryd.func31, Tryd.ntmps31
    go_wp2_with fail
    go_ret
    exact ⟨rfl, rfl⟩
  by_cases h2 : s = 405
  · subst h2
    go_enter Tryd.func31, Tryd.ntmps31
    go_wp2_with fail
    go_ret
    exact ⟨rfl, rfl⟩
  by_cases h3 : s = 410
  · subst h3
    go_enter Tryd.func31, Tryd.ntmps31
    go_wp2_with fail
    go_ret
    exact ⟨rfl, rfl⟩
  by_cases h4 : s = 414
  · subst h4
    go_enter Tryd.func31, Tryd.ntmps31
    go_wp2_with fail
    go_ret
    exact ⟨rfl, rfl⟩
  by_cases h5 : s = 501
  · subst h5
    go_enter Tryd.func31, Tryd.ntmps31
    go_wp2_with fail
    go_ret
    exact ⟨rfl, rfl⟩
  have e : negS s = false := by unfold negS; simp [h1, h2, h3, h4, h5]
  rw [e]
  clear e
  go_enter Tryd.func31, Tryd.ntmps31
  go_wp2_with fail
  go_ret
  exact ⟨rfl, rfl⟩
/-- is there a field of that name -/
def hasN (fs : FL) (nm : List UInt8) : Bool := decide (0 < (valsOf fs nm).length)
theorem hasFC (v : Value) (fs : FL) (nm : List UInt8) (w : World) (hv : HoldsF w v fs) (hb : bulkF fs ≤ 1048576) (hn : nm.length ≤ 1048576) :
    Calls Tryd.prog 16 #[v, .string ⟨nm.toArray⟩] w fun e w' => e = .returned (.bool (hasN fs nm)) ∧ Below w.heap.size w w' := by
  have cG := hide' (getTok v fs nm w hv hb hn)
  obtain ⟨ao, ca, _, _, rfl, _⟩ := holdsF_parts hv
  clear hv
  unfold hasN
  generalize decide (0 < (valsOf fs nm).length) = pb at cG ⊢
  generalize joinOf (valsOf fs nm) = jl at cG
  go_enter Tryd.func16, Tryd.ntmps16
  go_wp2_with fail
  refine cG.out.mono ?_
  rintro e w1 ⟨rfl, b1⟩
  have B1 := hide' b1
  clear b1 cG
  go_wp2_with fail
  go_ret
  exact ⟨rfl, B1.out⟩
set_option maxHeartbeats 1000000 in
theorem secondFC (s k : Int) (R : ByteArray) (v : Value) (fs : FL) (nm : List UInt8) (d : Int) (w : World) (hv : HoldsF w v fs) (hb : bulkF fs ≤ 1048576) (hn : nm.length ≤ 1048576) (E : EvD w) (D : DtP (joinOf (valsOf fs nm)) d) :
    Calls Tryd.prog 47 #[.agg #[.int .i64 s, .string R, .int .i64 k, v], .string ⟨nm.toArray⟩] w fun e w' => e = .returned (.tuple #[.int .i64 (max d 0), .bool (decide (0 ≤ d))]) ∧ Below w.heap.size w w' := by
  have B0 := below_alloc' w (.cells #[.int .i64 s, .string R, .int .i64 k, v] 26)
  have cG := hide' (getTok v fs nm _ (holdsF_mono hv B0) hb hn)
  replace B0 := hide' B0
  obtain ⟨ao, ca, _, _, rfl, _⟩ := holdsF_parts hv
  clear hv
  generalize decide (0 < (valsOf fs nm).length) = pb at cG
  generalize joinOf (valsOf fs nm) = jl at cG D
  obtain ⟨_, _, v, er, hve, cA⟩ := D
  have CA := hide' (fun W (h : Below w.heap.size w W) => cA W (E.1.below h) (E.2.below h))
  clear cA E
  obtain ⟨rv, rb, ev, eb, hz⟩ : ∃ (rv : Int) (rb : Bool), rv = max d 0 ∧ rb = decide (0 ≤ d) ∧ ((v = rv ∧ er = 0 ∧ rb = true) ∨ (v = rv ∧ er = 20 ∧ rb = false)) := by
    refine ⟨_, _, rfl, rfl, ?_⟩
    rcases hve with ⟨h, h1, h2⟩ | ⟨h, h1, h2⟩
    · exact .inr ⟨by omega, h2, by simp; omega⟩
    · exact .inl ⟨by omega, h2, by simp; omega⟩
  rw [← ev, ← eb]
  clear ev eb hve
  rcases hz with ⟨rfl, rfl, rfl⟩ | ⟨rfl, rfl, rfl⟩
  all_goals
    go_enter Tryd.func47, Tryd.ntmps47
    go_wp2_with fail
    refine cG.out.mono ?_
    rintro e w1 ⟨rfl, b1⟩
    have B1 := hide' (bt' B0.out b1)
    clear b1 cG B0
    go_wp2_with fail
    refine (CA.out _ B1.out).mono ?_
    rintro e w2 ⟨rfl, b2⟩
    have B2 := hide' (bt' B1.out b2)
    clear b2 CA B1
    go_wp2_with fail
    go_ret2
    exact ⟨rfl, B2.out⟩
def dab : List UInt8 := [68, 97, 116, 101]
def exb : List UInt8 := [69, 120, 112, 105, 114, 101, 115]
def lmb : List UInt8 := [76, 97, 115, 116, 45, 77, 111, 100, 105, 102, 105, 101, 100]
def agb : List UInt8 := [65, 103, 101]
set_option maxHeartbeats 1000000 in
/-- the entry's date -/
theorem dateFC (K V R : ByteArray) (s k a g : Int) (ao ba : Option Addr) (n m ca bc : Nat) (fs : FL) (d : Int) (w : World) (hv : HoldsF w (.slice ao n ca) fs) (hb : bulkF fs ≤ 1048576) (E : EvD w) (D : DtP (joinOf (valsOf fs dab)) d) :
    Calls Tryd.prog 45 #[.agg #[.string K, .string V, .int .i64 s, .string R, .int .i64 k, .slice ao n ca, .slice ba m bc, .int .i64 a, .int .i64 g]] w fun e w' => e = .returned (.int .i64 (dtN d g)) ∧ Below w.heap.size w w' := by
  have B0 := below_alloc' w (.cells #[.string K, .string V, .int .i64 s, .string R, .int .i64 k, .slice ao n ca, .slice ba m bc, .int .i64 a, .int .i64 g] 39)
  have C0 := hide' (fun W (h : Below (w.alloc (.cells #[.string K, .string V, .int .i64 s, .string R, .int .i64 k, .slice ao n ca, .slice ba m bc, .int .i64 a, .int .i64 g] 39)).heap.size (w.alloc (.cells #[.string K, .string V, .int .i64 s, .string R, .int .i64 k, .slice ao n ca, .slice ba m bc, .int .i64 a, .int .i64 g] 39)) W) => cells_nine (cells_below (cells_lit w #[.string K, .string V, .int .i64 s, .string R, .int .i64 k, .slice ao n ca, .slice ba m bc, .int .i64 a, .int .i64 g] 39) h))
  have cS := hide' (secondFC s k R (.slice ao n ca) fs dab d _ (holdsF_mono hv B0) hb (by decide) (evD_below E B0) D)
  replace B0 := hide' B0
  clear hv E D
  obtain ⟨r, er⟩ : ∃ r, r = dtN d g := ⟨_, rfl⟩
  rw [← er]
  by_cases hd : 0 ≤ d
  · have e1 : decide (0 ≤ d) = true := by simp; omega
    have e2 : max d 0 = r := by rw [er]; unfold dtN; rw [if_neg (by omega)]; omega
    rw [e1, e2] at cS
    clear e1 e2 hd er
    go_enter Tryd.func45, Tryd.ntmps45
    go_wp2_with fail
    refine cS.out.mono ?_
    rintro e w1 ⟨rfl, b1⟩
    have B1 := hide' (bt' B0.out b1)
    clear b1 cS B0 C0
    go_wp2_with fail
    go_ret
    exact ⟨rfl, B1.out⟩
  · have e1 : decide (0 ≤ d) = false := by simp; omega
    have e2 : cN g 253402300799 = r := by rw [er]; unfold dtN; rw [if_pos (by omega)]
    have cC := hide' (cutTimeFC g)
    rw [e1] at cS
    rw [e2] at cC
    generalize max d 0 = md at cS
    clear e1 e2 hd er
    go_enter Tryd.func45, Tryd.ntmps45
    go_wp2_with fail
    refine cS.out.mono ?_
    rintro e w1 ⟨rfl, b1⟩
    have B1 := hide' (bt' B0.out b1)
    obtain ⟨⟨i0, i1, i2, i3, i4, i5, i6, i7, i8⟩, -⟩ := C0.out _ b1
    clear b1 cS B0 C0
    go_wp2_with fail
    refine (cC.out _).mono ?_
    rintro e w9 ⟨rfl, ew⟩
    rw [ew]
    clear ew w9
    go_wp2_with fail
    go_ret
    exact ⟨rfl, B1.out⟩
set_option maxHeartbeats 1000000 in
/-- the age that the response had -/
theorem ageToldFC (s k : Int) (R : ByteArray) (ao : Option Addr) (n ca : Nat) (fs : FL) (w : World) (hv : HoldsF w (.slice ao n ca) fs) (hb : bulkF fs ≤ 1048576) :
    Calls Tryd.prog 46 #[.agg #[.int .i64 s, .string R, .int .i64 k, .slice ao n ca]] w fun e w' => e = .returned (.int .i64 (max (secs (joinOf (valsOf fs agb))) 0)) ∧ Below w.heap.size w w' := by
  have B0 := below_alloc' w (.cells #[.int .i64 s, .string R, .int .i64 k, .slice ao n ca] 26)
  have cG := hide' (getTok (.slice ao n ca) fs agb _ (holdsF_mono hv B0) hb (by decide))
  have hl : (joinOf (valsOf fs agb)).length ≤ 2097152 := by have h1 := join_len (valsOf fs agb); have h2 := bulk_vals fs agb; omega
  replace B0 := hide' B0
  clear hv
  generalize decide (0 < (valsOf fs agb).length) = pb at cG
  generalize joinOf (valsOf fs agb) = jl at cG hl ⊢
  have cS := hide' (fun W => secondsTok ⟨jl.toArray⟩ W (by show jl.toArray.size ≤ 140737488351232; rw [List.size_toArray]; omega))
  obtain ⟨x, ex⟩ : ∃ x, x = secs jl := ⟨_, rfl⟩
  have cS2 := hide' (fun W => by have h := cS.out W; rw [show secs (⟨jl.toArray⟩ : ByteArray).data.toList = x from ex.symm] at h; exact h)
  have xi := secs_in jl
  rw [← ex] at xi ⊢
  obtain ⟨x0, x1⟩ := xi
  clear ex cS hl
  go_enter Tryd.func46, Tryd.ntmps46
  go_wp2_with fail
  refine cG.out.mono ?_
  rintro e w1 ⟨rfl, b1⟩
  have B1 := hide' (bt' B0.out b1)
  clear b1 cG B0
  go_wp2_with fail
  refine (cS2.out _).mono ?_
  rintro e w9 ⟨rfl, ew⟩
  rw [ew]
  clear ew w9
  go_wp2_with fail
  go_ret
  exact ⟨by first | rfl | (congr 2; omega), B1.out⟩
end Go.Proofs.YtlhhcpbfjjhbfabDoor
