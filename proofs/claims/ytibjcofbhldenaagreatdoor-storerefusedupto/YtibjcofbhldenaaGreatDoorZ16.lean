/- The contracts of upTo, goodByte, good, and of the check of several names. The walk of StorePaths. A list of integers that came in: what the reading says of it. A list of files (a text and bytes each) that came in: what the reading says of it; the types are given by their numbers. A list of bytes that came in: what the reading says of it. A request and a response that came in: what the reading says of them. A list of steps (a number, two texts and bytes each) that came in: what the reading says of it; the types are given by their numbers. -/
import Derived.Lib.Bytealg
import Derived.Shelf.Small.Strs
import Derived.Lib.AppendStr
import Derived.Laws.DeepStrings4
import Derived.Lib.Strings
import Derived.Deep.RegionHeldLaw
import Derived.Deep.QuietTactic
import Derived.BigQuiet
import Derived.ChangeSlices
import Derived.Lib.SmallJoins
import Derived.Deep.Slices
import Derived.Test.YtibjcofbhldenaaGreatDoorZ15
import Derived.Test.YtibjcofbhldenaaGreatDoorZ01
import Derived.Test.YtibjcofbhldenaaGreatDoorZ03
namespace Go.Proofs.YtibjcofbhldenaaGreatDoor
open Go.RowKit
def goodI (c : Int) : Bool := decide ((97 ≤ c ∧ c ≤ 122) ∨ (48 ≤ c ∧ c ≤ 57) ∨ c = 46 ∨ c = 45 ∨ c = 95 ∨ c = 47)
theorem goodI_C (c : UInt8) : goodI (c.toNat : Int) = goodC c := by
  unfold goodI goodC
  have e : ∀ n : Nat, n < 256 → ((c = UInt8.ofNat n) ↔ (c.toNat = n)) := by
    intro n hn
    constructor
    · intro h; rw [h]; exact UInt8.toNat_ofNat_of_lt hn
    · intro h; exact UInt8.toNat_inj.1 (by rw [h]; exact (UInt8.toNat_ofNat_of_lt hn).symm)
  have e1 := e 46 (by decide)
  have e2 := e 45 (by decide)
  have e3 := e 95 (by decide)
  have e4 := e 47 (by decide)
  apply decide_eq_decide.2
  have f1 : (c = 46) ↔ c.toNat = 46 := e1
  have f2 : (c = 45) ↔ c.toNat = 45 := e2
  have f3 : (c = 95) ↔ c.toNat = 95 := e3
  have f4 : (c = 47) ↔ c.toNat = 47 := e4
  rw [f1, f2, f3, f4]
  omega
theorem idx_good : ∀ n : Nat, n < 256 → decide (0 ≤ Lib.indexByte [45, 46, 95, 47] n.toUInt8) = decide ((n : Int) = 46 ∨ (n : Int) = 45 ∨ (n : Int) = 95 ∨ (n : Int) = 47) := by decide +kernel
theorem idx_goodI (c : Int) (h0 : 0 ≤ c) (h1 : c ≤ 255) : decide (0 ≤ Lib.indexByte [45, 46, 95, 47] c.toNat.toUInt8) = decide (c = 46 ∨ c = 45 ∨ c = 95 ∨ c = 47) := by
  obtain ⟨n, rfl⟩ := Int.eq_ofNat_of_zero_le h0
  exact idx_good n (by omega)
set_option maxHeartbeats 400000 in
theorem goodByteC (c : Int) (h0 : 0 ≤ c) (h1 : c ≤ 255) (w : World) : Calls Tryz.prog 158 #[.int .u8 c] w fun e w' => e = .returned (.bool (goodI c)) ∧ w' = w := by
  by_cases ha : (48 ≤ c ∧ c ≤ 57) ∨ (97 ≤ c ∧ c ≤ 122)
  · have H : Hid (goodI c = true) := by
      unfold Hid goodI
      rw [decide_eq_true_iff]
      rcases ha with h | h
      · exact .inr (.inl h)
      · exact .inl h
    rcases ha with ⟨ha, hb⟩ | ⟨ha, hb⟩
    all_goals
      go_enter Tryz.func158, Tryz.ntmps158
      go_wp2
      go_ret
      rw [H.out]
      exact ⟨rfl, rfl⟩
  · have H : Hid (decide (0 ≤ Lib.indexByte [45, 46, 95, 47] c.toNat.toUInt8) = goodI c) := by
      unfold Hid goodI
      rw [idx_goodI c h0 h1]
      apply decide_eq_decide.2
      constructor
      · intro h; exact .inr (.inr h)
      · rintro (h | h | h)
        · exact absurd (.inr h) ha
        · exact absurd (.inl h) ha
        · exact h
    have hc : Calls Tryz.prog 184 #[.string ⟨#[45, 46, 95, 47]⟩, .int .u8 c] w (fun e w' => e = .returned (.int .i64 (Lib.indexByte [45, 46, 95, 47] c.toNat.toUInt8)) ∧ w' = w) := Any.strings_IndexByte Tryz.lays137 ⟨#[45, 46, 95, 47]⟩ c w
    generalize Lib.indexByte [45, 46, 95, 47] c.toNat.toUInt8 = r at H hc
    rcases (by omega : c < 48 ∨ (57 < c ∧ c < 97) ∨ 122 < c) with h | h | h
    all_goals
      clear ha
      go_enter Tryz.func158, Tryz.ntmps158
      go_wp2_with (go_at_call 184; refine hc.mono ?_; rintro e w' ⟨rfl, rfl⟩)
      go_ret
      rw [← H.out]
      have d1 : 48 ≤ c → decide (c ≤ 57) = false := fun h => by rw [decide_eq_false_iff_not]; omega
      have d2 : 97 ≤ c → decide (c ≤ 122) = false := fun h => by rw [decide_eq_false_iff_not]; omega
      first
        | exact ⟨rfl, rfl⟩
        | (rw [d1 (by omega)]; exact ⟨rfl, rfl⟩)
        | (rw [d1 (by omega), d2 (by omega)]; exact ⟨rfl, rfl⟩)
theorem good_bad (s : ByteArray) (k : Nat) (h : k < s.size) (hc : goodI (s[k].toNat : Int) = false) : goodN s.data.toList = false := by
  unfold goodN
  have : s.data.toList.all goodC = false := by
    rw [List.all_eq_false]
    exact ⟨s.data.toList[k]'(by simpa using h), List.getElem_mem _, by
      have e : s.data.toList[k]'(by simpa using h) = s[k] := rfl
      rw [e, ← goodI_C, hc]; decide⟩
  rw [this, Bool.false_and]
theorem good_step (s : ByteArray) (k : Nat) (h : k < s.size) (hc : goodI (s[k].toNat : Int) = true) (ha : (s.data.toList.take k).all goodC = true) : (s.data.toList.take (k + 1)).all goodC = true := by
  rw [take_snoc s k h, List.all_append, ha]
  simp only [List.all_cons, List.all_nil, Bool.and_true, Bool.true_and]
  rw [← goodI_C]; exact hc
theorem good_end (s : ByteArray) (k : Nat) (h : s.size ≤ k) (ha : (s.data.toList.take k).all goodC = true) : goodN s.data.toList = (decide (1 ≤ s.size) && decide (s.size ≤ 64)) := by
  rw [take_all s k h] at ha
  unfold goodN
  rw [ha, Bool.true_and]
  simp
set_option maxRecDepth 20000 in
set_option maxHeartbeats 1000000 in
theorem goodNameC (s : ByteArray) (w : World) (hs : s.size ≤ 140737488351232) : Calls Tryz.prog 119 #[.string s] w fun e w' => e = .returned (.bool (goodN s.data.toList)) ∧ w' = w := by
  go_enter Tryz.func119, Tryz.ntmps119
  go_wp2_with fail
  go_loop [3, 6] (fun _ i => ∃ k : Nat, k ≤ s.size ∧ i = .int .i64 k ∧ Hid ((s.data.toList.take k).all goodC = true)) (fun _ i => s.size - (intOf i).toNat)
  case atStart => exact ⟨0, by omega, rfl, by unfold Hid; simp⟩
  case round =>
    obtain ⟨k, hk, rfl, ha⟩ := hrel
    by_cases hlt : k < s.size
    · have hb := byte_lt s[k]
      cases ht : goodI (s[k].toNat : Int) with
      | true =>
        have A := hide' (good_step s k hlt ht ha.out)
        go_wp2_with (go_at_call 158; refine (goodByteC _ (by omega) (by omega) _).mono ?_; rintro e w' ⟨rfl, rfl⟩)
        go_round
        case rel => exact ⟨k + 1, by omega, by go_num, A⟩
        case measure => simp [intOf]; omega
      | false =>
        have F := hide' (good_bad s k hlt ht)
        go_wp2_with (go_at_call 158; refine (goodByteC _ (by omega) (by omega) _).mono ?_; rintro e w' ⟨rfl, rfl⟩)
        go_ret
        rw [F.out]
        exact ⟨rfl, rfl⟩
    · have F := hide' (good_end s k (by omega) ha.out)
      by_cases h0 : s.size = 0
      · have e0 : s = ⟨#[]⟩ := by
          cases s with
          | mk d => have : d.size = 0 := h0; rw [Array.eq_empty_of_size_eq_zero this]
        have F2 : Hid (goodN s.data.toList = false) := by unfold Hid; rw [F.out, h0]; rfl
        subst e0
        clear F h0
        go_wp2_with fail
        go_ret
        rw [F2.out]
        exact ⟨rfl, rfl⟩
      · have F2 : Hid (goodN s.data.toList = decide ((s.size : Int) ≤ 64)) := by
          unfold Hid; rw [F.out]
          have : decide (1 ≤ s.size) = true := by rw [decide_eq_true_iff]; omega
          rw [this, Bool.true_and]
          apply decide_eq_decide.2
          omega
        have hne : (s.toList == ([] : List UInt8)) = false := by
          rw [Lib.toList_data]
          have : s.data.toList ≠ [] := fun e => h0 (by have := congrArg List.length e; simpa using this)
          simpa using this
        clear F h0
        go_wp2_with fail
        go_ret
        rw [F2.out]
        exact ⟨rfl, rfl⟩
set_option maxHeartbeats 400000 in
theorem badName (s : ByteArray) (w : World) (hs : s.size ≤ 140737488351232) : Calls Tryz.prog 177 #[.string s] w fun e w' => e = .returned (.bool (!goodN s.data.toList)) ∧ w' = w := by
  go_enter Tryz.func177, Tryz.ntmps177
  go_wp2_with (go_at_call 119; refine (goodNameC s _ hs).mono ?_; rintro e w' ⟨rfl, rfl⟩)
  go_ret
  exact ⟨rfl, rfl⟩
theorem badName' (l : Nm) (w : World) (hs : l.length ≤ 140737488351232) : Calls Tryz.prog 177 #[.string ⟨l.toArray⟩] w fun e w' => e = .returned (.bool (!goodN l)) ∧ w' = w := by
  have := badName ⟨l.toArray⟩ w (by rw [size_l]; exact hs)
  simpa using this
set_option maxRecDepth 20000 in
set_option maxHeartbeats 1000000 in
theorem idxFunc (v : Value) (ns : List Nm) (w : World) (hv : Holds w v ns) (hl : ∀ n ∈ ns, n.length ≤ 140737488351232) (hn : ns.length ≤ 1000000) :
    Calls Tryz.prog 198 #[v, .func (.func 177) #[] #[]] w fun e w' => ∃ r : Int, e = .returned (.int .i64 r) ∧ decide (0 ≤ r) = ns.any (fun n => !goodN n) ∧ w' = w := by
  obtain ⟨ao, ca, rfl, hca⟩ := hv
  by_cases hz : ns = []
  · subst hz
    clear hca hl hn
    go_enter Tryz.func198, Tryz.ntmps198
    go_wp2_with fail
    go_rounds 1
    go_ret
    exact ⟨-1, rfl, rfl, rfl⟩
  · obtain ⟨b1, o1, rfl, hlt1, c1⟩ := hca hz
    have C1 : Hid _ := c1
    obtain ⟨n, hN⟩ : ∃ n, n = ns.length := ⟨_, rfl⟩
    have N1 : Hid (ns.length = n) := hN.symm
    have ln : n ≤ 1000000 := by omega
    rw [N1.out]
    clear hca c1 hz hn hN
    go_enter Tryz.func198, Tryz.ntmps198
    go_wp2_with fail
    go_loop [5, 8] (fun _ i => ∃ k : Nat, k ≤ n ∧ i = .int .i64 k ∧ Hid ((ns.take k).any (fun n => !goodN n) = false)) (fun _ i => n - (intOf i).toNat)
    case atStart => exact ⟨0, by omega, rfl, rfl⟩
    case round =>
      obtain ⟨k, hk, rfl, hE⟩ := hrel
      by_cases hlt : k < n
      · have x1 := C1.out k (by rw [N1.out]; exact hlt)
        unfold S at x1
        have G1 : Hid (k < ns.length) := by unfold Hid; rw [N1.out]; exact hlt
        have cb := badName' (ns[k]'G1.out) w (hl _ (List.getElem_mem _))
        cases hg : goodN (ns[k]'G1.out) with
        | true =>
          have E : Hid ((ns.take (k + 1)).any (fun n => !goodN n) = false) := by
            unfold Hid; rw [List.take_succ_eq_append_getElem G1.out, List.any_append, hE.out]; simp [hg]
          rw [hg] at cb
          generalize (ns[k]'G1.out).toArray = y at x1 cb
          have CB := hide' cb
          clear cb hg
          go_wp2_with (go_at_call 177; refine CB.out.mono ?_; rintro e w' ⟨rfl, rfl⟩)
          go_round
          case rel => exact ⟨k + 1, by omega, by go_num, E⟩
          case measure => simp [intOf]; omega
        | false =>
          have F : Hid (ns.any (fun n => !goodN n) = true) := by
            unfold Hid; rw [List.any_eq_true]; exact ⟨_, List.getElem_mem G1.out, by rw [hg]; rfl⟩
          rw [hg] at cb
          generalize (ns[k]'G1.out).toArray = y at x1 cb
          have CB := hide' cb
          clear cb hg
          go_wp2_with (go_at_call 177; refine CB.out.mono ?_; rintro e w' ⟨rfl, rfl⟩)
          go_ret
          exact ⟨(k : Int), rfl, by rw [F.out, decide_eq_true_iff]; omega, rfl⟩
      · have F : Hid (ns.any (fun n => !goodN n) = false) := by
          have := hE.out
          rwa [List.take_of_length_le (by rw [N1.out]; omega)] at this
        go_wp2_with fail
        go_ret
        exact ⟨-1, rfl, by rw [F.out]; rfl, rfl⟩
set_option maxHeartbeats 400000 in
theorem anyBad (v : Value) (ns : List Nm) (w : World) (hv : Holds w v ns) (hl : ∀ n ∈ ns, n.length ≤ 140737488351232) (hn : ns.length ≤ 1000000) :
    Calls Tryz.prog 176 #[v, .func (.func 177) #[] #[]] w fun e w' => e = .returned (.bool (ns.any (fun n => !goodN n))) ∧ w' = w := by
  have C := hide' (idxFunc v ns w hv hl hn)
  clear hv
  go_enter Tryz.func176, Tryz.ntmps176
  go_wp2_with (go_at_call 198; refine C.out.mono ?_; rintro e w' ⟨r, rfl, h, rfl⟩; have H := hide' h; clear h)
  go_ret
  exact ⟨by rw [← H.out]; rfl, rfl⟩
end Go.Proofs.YtibjcofbhldenaaGreatDoor
namespace Go.Proofs.YtibjcofbhldenaaGreatDoor
open Go.RowKit
/-- a digit -/
def hxB (k : Nat) : UInt8 := [48, 49, 50, 51, 52, 53, 54, 55, 56, 57, 97, 98, 99, 100, 101, 102].getD k 0
theorem hx_get (a : Fin 16) : (((⟨#[48, 49, 50, 51, 52, 53, 54, 55, 56, 57, 97, 98, 99, 100, 101, 102]⟩ : ByteArray)[a.val]'(show a.val < 16 from a.isLt)).toNat : Int) = ((hxB a.val).toNat : Int) := by
  revert a; decide +kernel
theorem addS (x y : ByteArray) (h : x.size + y.size ≤ 1000000000000000) : ∃ s : ByteArray, (∀ W, (Op.stringOp .add x y).run Tryz.prog W = .ok (.string s) W) ∧ s.data.toList = x.data.toList ++ y.data.toList ∧ s.size = x.size + y.size :=
  ⟨x ++ y, fun W => run_string_add_sum W _ _ (by omega), by simp [ByteArray.data_append], ByteArray.size_append⟩
theorem ba_of {s t : ByteArray} (h : s.data.toList = t.data.toList) : s = t := by cases s; cases t; simp at h; simp [h]
theorem two_holdsP (W : World) (x y : UInt8) : HoldsB (W.alloc (.cells #[.int .u8 (x.toNat : Int), .int .u8 (y.toNat : Int)] 5)) (.slice (some ⟨W.heap.size, 0, none⟩) 2 2) [x, y] := by
  refine ⟨_, 2, rfl, fun e => (by cases e), Nat.le_refl _, fun _ => ⟨W.heap.size, 0, rfl, by simp, fun j hj => ?_⟩⟩
  match j, hj with
  | 0, _ => simp [B]
  | 1, _ => simp [B]
theorem hx_str (a b : Nat) : ∃ X : ByteArray, X = ⟨[hxB a, hxB b].toArray⟩ ∧ X.data.toList = [hxB a, hxB b] ∧ X.size = 2 := ⟨_, rfl, rfl, rfl⟩
set_option maxRecDepth 20000 in
set_option maxHeartbeats 1000000 in
theorem twoC (n : Nat) (h : n < 256) : ∃ X : ByteArray, X.data.toList = [hxB (n / 16), hxB (n % 16)] ∧ X.size = 2 ∧ ∀ w, Calls Tryz.prog 81 #[.int .i64 (n : Int)] w fun e w' => e = .returned (.string X) ∧ Below w.heap.size w w' := by
  obtain ⟨X, hX, l, z⟩ := hx_str (n / 16) (n % 16)
  refine ⟨X, l, z, fun w => ?_⟩
  have d1 : (n : Int).tdiv 16 = ((n / 16 : Nat) : Int) := by rw [Int.tdiv_eq_ediv_of_nonneg (by omega)]; omega
  have d2 : (n : Int).tmod 16 = ((n % 16 : Nat) : Int) := by rw [Int.tmod_eq_emod_of_nonneg (by omega)]; omega
  have d3 : (n : Int) / 16 = ((n / 16 : Nat) : Int) := by omega
  have d4 : (n : Int) % 16 = ((n % 16 : Nat) : Int) := by omega
  have c1 := conv_holds (two_holdsP w (hxB (n / 16)) (hxB (n % 16)))
  have c2 := conv_holds (two_holdsP w.drew (hxB (n / 16)) (hxB (n % 16)))
  have c3 := conv_holds (holdsB_mono (two_holdsP w (hxB (n / 16)) (hxB (n % 16))) (Below.refl _ _).drew)
  rw [← hX] at c1 c2 c3
  have la : n / 16 < 16 := by omega
  have lb : n % 16 < 16 := by omega
  have la' : ((n / 16 : Nat) : Int) < 16 := by omega
  have lb' : ((n % 16 : Nat) : Int) < 16 := by omega
  have hs : (⟨#[48, 49, 50, 51, 52, 53, 54, 55, 56, 57, 97, 98, 99, 100, 101, 102]⟩ : ByteArray).size = 16 := rfl
  clear l z hX h
  generalize n / 16 = a at d1 d3 c1 c2 c3 la la'
  generalize n % 16 = b at d2 d4 c1 c2 c3 lb lb'
  have wa : IntKind.i64.wrap (a : Int) = a := by rw [IntKind.wrap_i64]; omega
  have wb : IntKind.i64.wrap (b : Int) = b := by rw [IntKind.wrap_i64]; omega
  have i1 := hx_get ⟨a, la⟩
  have i2 := hx_get ⟨b, lb⟩
  dsimp only at i1 i2
  rw [← i1, ← i2] at c1 c2 c3
  clear i1 i2
  go_enter Tryz.func81, Tryz.ntmps81
  go_wp2_with fail
  go_region_held_law (fun _ => True) (trivial) (fail)
  all_goals
    go_wp2_with fail
    go_ret
    exact ⟨rfl, by first | exact below_alloc' _ _ | exact (below_alloc' _ _).drew | exact (Below.refl _ _).drew.alloc (Nat.le_refl _) _⟩
/-- the name of the file of a number -/
def pathL (n : Nat) : List UInt8 := [111, 47, hxB (n / 64 / 16), hxB (n / 64 % 16), 47, hxB (n % 64 / 16), hxB (n % 64 % 16)]
def pathB (z : Int) : ByteArray := if z < 0 ∨ 4096 ≤ z then ⟨#[]⟩ else ⟨(pathL z.toNat).toArray⟩
set_option maxRecDepth 20000 in
set_option maxHeartbeats 1000000 in
theorem pathC (z : Int) (w : World) : Calls Tryz.prog 32 #[.int .i64 z] w fun e w' => e = .returned (.string (pathB z)) ∧ Below w.heap.size w w' := by
  by_cases h0 : z < 0
  · have E : Hid (pathB z = ⟨#[]⟩) := by unfold Hid pathB; rw [if_pos (.inl h0)]
    rw [E.out]
    have d0 : decide (z < 0) = true := by simpa using h0
    clear h0
    go_enter Tryz.func32, Tryz.ntmps32
    go_wp2_with fail
    go_ret
    exact ⟨rfl, Below.refl _ _⟩
  have d0 : decide (z < 0) = false := by simpa using h0
  by_cases h1 : 4096 ≤ z
  · have E : Hid (pathB z = ⟨#[]⟩) := by unfold Hid pathB; rw [if_pos (.inr h1)]
    rw [E.out]
    have d1 : decide (4096 ≤ z) = true := by simpa using h1
    clear h0 h1
    go_enter Tryz.func32, Tryz.ntmps32
    go_wp2_with fail
    go_ret
    exact ⟨rfl, Below.refl _ _⟩
  have d1 : decide (4096 ≤ z) = false := by simpa using h1
  obtain ⟨n, rfl⟩ : ∃ n : Nat, z = n := ⟨z.toNat, by omega⟩
  have hn : n < 4096 := by omega
  have E : Hid (pathB n = ⟨(pathL n).toArray⟩) := by unfold Hid pathB; rw [if_neg (by omega), Int.toNat_natCast]
  have e1 : (n : Int).tdiv 64 = ((n / 64 : Nat) : Int) := by rw [Int.tdiv_eq_ediv_of_nonneg (by omega)]; omega
  have e2 : (n : Int).tmod 64 = ((n % 64 : Nat) : Int) := by rw [Int.tmod_eq_emod_of_nonneg (by omega)]; omega
  have e7 : (n : Int) / 64 = ((n / 64 : Nat) : Int) := by omega
  have e8 : (n : Int) % 64 = ((n % 64 : Nat) : Int) := by omega
  obtain ⟨X, l1, z3, C1'⟩ := twoC (n / 64) (by omega)
  obtain ⟨Y, l2, z4, C2'⟩ := twoC (n % 64) (by omega)
  have C1 := hide' C1'
  have C2 := hide' C2'
  clear C1' C2'
  have z1 : (⟨#[111, 47]⟩ : ByteArray).size = 2 := rfl
  have z2 : (⟨#[47]⟩ : ByteArray).size = 1 := rfl
  obtain ⟨X1, a1, m1, s1⟩ := addS ⟨#[111, 47]⟩ X (by omega)
  obtain ⟨X2, a2, m2, s2⟩ := addS X1 ⟨#[47]⟩ (by omega)
  obtain ⟨X3, a3, m3, s3⟩ := addS X2 Y (by omega)
  have EX : Hid (X3 = pathB n) := by
    unfold Hid
    rw [E.out]
    refine ba_of ?_
    rw [m3, m2, m1, l1, l2]
    simp [pathL]
  have wa : IntKind.i64.wrap ((n / 64 : Nat) : Int) = ((n / 64 : Nat) : Int) := by rw [IntKind.wrap_i64]; omega
  generalize n / 64 = a at e1 e7 C1 wa
  generalize n % 64 = b at e2 e8 C2
  clear E m1 m2 m3 l1 l2 h0 h1 hn
  go_enter Tryz.func32, Tryz.ntmps32
  go_wp2_with fail
  refine (C1.out _).mono ?_
  rintro e w1 ⟨rfl, b1⟩
  have B1 := hide' b1
  clear b1
  go_wp2_with fail
  refine (C2.out _).mono ?_
  rintro e w2 ⟨rfl, b2⟩
  have B2 := hide' (B1.out.trans (b2.mono B1.out.size))
  clear b2
  go_wp2_with fail
  go_ret
  rw [← EX.out]
  exact ⟨rfl, B2.out⟩
end Go.Proofs.YtibjcofbhldenaaGreatDoor
namespace Go.Proofs.YtibjcofbhldenaaGreatDoor
open Go.ChangeShapes Go.WideShapes Go.ChangeAt Go.RowKit
/-- v is a slice whose elements are these integers -/
def HoldsI (w : World) (v : Value) (zs : List Int) : Prop :=
  ∃ ao cap, v = .slice ao zs.length cap ∧ (ao = none → cap = 0) ∧ zs.length ≤ cap ∧ (zs ≠ [] → ∃ b off, ao = some ⟨b, off, none⟩ ∧ b < w.heap.size ∧ ∀ j (h : j < zs.length), w.cell? ⟨b, off + j, none⟩ = some (.int .i64 zs[j]))
end Go.Proofs.YtibjcofbhldenaaGreatDoor
namespace Go.Proofs.YtibjcofbhldenaaGreatDoor
open Go.ChangeShapes Go.WideShapes Go.ChangeAt Go.RowKit
/-- v is a slice whose elements are files: a text and bytes each -/
def HoldsFi (w : World) (v : Value) (fs : FL) : Prop :=
  ∃ ao cap, v = .slice ao fs.length cap ∧ (ao = none → cap = 0) ∧ fs.length ≤ cap ∧ (fs ≠ [] → ∃ b off, ao = some ⟨b, off, none⟩ ∧ b < w.heap.size ∧ ∀ j (h : j < fs.length), w.cell? ⟨b, off + j * 2, none⟩ = some (S fs[j].1) ∧ ∃ u, w.cell? ⟨b, off + j * 2 + 1, none⟩ = some u ∧ HoldsB w u fs[j].2)
end Go.Proofs.YtibjcofbhldenaaGreatDoor
namespace Go.Proofs.YtibjcofbhldenaaGreatDoor
open Go.ChangeShapes Go.WideShapes Go.ChangeAt Go.RowKit
end Go.Proofs.YtibjcofbhldenaaGreatDoor
namespace Go.Proofs.YtibjcofbhldenaaGreatDoor
open Go.ChangeShapes Go.WideShapes Go.ChangeAt Go.RowKit
theorem ba_list (s : ByteArray) : s = ⟨s.data.toList.toArray⟩ := by cases s; simp
end Go.Proofs.YtibjcofbhldenaaGreatDoor
namespace Go.Proofs.YtibjcofbhldenaaGreatDoor
open Go.ChangeShapes Go.WideShapes Go.ChangeAt Go.RowKit
end Go.Proofs.YtibjcofbhldenaaGreatDoor
