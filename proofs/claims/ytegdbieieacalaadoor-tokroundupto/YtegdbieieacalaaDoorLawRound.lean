/- The walk of the law TokRound. -/
import Derived.Test.YtegdbieieacalaaDoorRoundP
import Derived.Test.YtegdbieieacalaaDoorQb
import Derived.Test.YtegdbieieacalaaDoorUb
import Derived.Test.YtegdbieieacalaaDoorLawLists
namespace Go.Proofs.YtegdbieieacalaaDoor
open Go.RowKit
theorem quoteYes (s : ByteArray) (w : World) (hs : s.size ≤ 1048576) (h : s.data.toList.all txt = true) :
    Calls Tryd.prog 17 #[.string s] w fun e w' => e = .returned (.tuple #[.string ⟨(quoted s.data.toList).toArray⟩, .int .i64 0]) ∧ Below w.heap.size w w' := by
  have c := quoteTok s w hs
  have e : quoteOf s.data.toList = (quoted s.data.toList, 0) := by unfold quoteOf quoted; rw [if_pos h]
  rw [e] at c
  exact c
theorem quoteNo (s : ByteArray) (w : World) (hs : s.size ≤ 1048576) (h : s.data.toList.all txt = false) :
    Calls Tryd.prog 17 #[.string s] w fun e w' => e = .returned (.tuple #[.string ⟨#[]⟩, .int .i64 11]) ∧ Below w.heap.size w w' := by
  have c := quoteTok s w hs
  have e : quoteOf s.data.toList = ([], 11) := by unfold quoteOf; rw [h]; rfl
  rw [e] at c
  exact c
theorem quoted_small (s : ByteArray) (hs : s.size ≤ 1048576) : (quoted s.data.toList).length ≤ 4194304 := by
  have h1 := escs_len s.data.toList
  have h2 : s.data.toList.length = s.size := by simp
  rw [quoted_len]
  omega
theorem size_list (l : List UInt8) : (⟨l.toArray⟩ : ByteArray).size = l.length := by show l.toArray.size = _; rw [List.size_toArray]
theorem unquoteQ (s : ByteArray) (w : World) (hs : s.size ≤ 1048576) (h : s.data.toList.all txt = true) :
    Calls Tryd.prog 18 #[.string ⟨(quoted s.data.toList).toArray⟩] w fun e w' => e = .returned (.tuple #[.string s, .int .i64 0]) ∧ Below w.heap.size w w' := by
  have c := unquoteTok ⟨(quoted s.data.toList).toArray⟩ w (by rw [size_list]; exact quoted_small s hs)
  rw [unqS_quoted _ h] at c
  have e : (⟨(s.data.toList, (0 : Int)).1.toArray⟩ : ByteArray) = s := ba_eta s
  rw [e] at c
  exact c
theorem listQ (s : ByteArray) (w : World) (hs : s.size ≤ 1048576) :
    Calls Tryd.prog 15 #[.string ⟨(quoted s.data.toList).toArray⟩] w fun e w' => ∃ v, e = .returned v ∧ OwnS w v [quoted s.data.toList] w' := by
  have c := listTok ⟨(quoted s.data.toList).toArray⟩ w (by rw [size_list]; exact quoted_small s hs)
  have e : (⟨(quoted s.data.toList).toArray⟩ : ByteArray).data.toList = quoted s.data.toList := rfl
  rw [e, listOf_quoted] at c
  exact c
theorem tokenQ (s : ByteArray) (w : World) (hs : s.size ≤ 1048576) :
    Calls Tryd.prog 7 #[.string ⟨(quoted s.data.toList).toArray⟩] w fun e w' => e = .returned (.bool false) ∧ w' = w := by
  have c := tokenTok ⟨(quoted s.data.toList).toArray⟩ w (by rw [size_list]; have := quoted_small s hs; omega)
  have e : (⟨(quoted s.data.toList).toArray⟩ : ByteArray).data.toList = quoted s.data.toList := rfl
  rw [e, isTok_quoted] at c
  exact c
namespace tokRound
set_option maxHeartbeats 1000000 in
theorem walk (s : ByteArray) (w : World) (hs : s.size ≤ 1048576) :
    Calls Tryd.prog 5 #[.string s] w fun e w' => e = .returned (.bool true) ∧ Below w.heap.size w w' := by
  cases h : s.data.toList.all txt with
  | false =>
    have c1 : Hid (∀ w, _) := fun w => quoteNo s w hs h
    clear h
    go_enter Tryd.func5, Tryd.ntmps5
    go_wp2_with fail
    refine (alive _).mono ?_
    rintro e w1 ⟨rfl, b1⟩
    go_wp2_with fail
    refine (c1.out _).mono ?_
    rintro e w2 ⟨rfl, b2⟩
    go_wp2_with fail
    go_ret
    have z1 := b1.size
    exact ⟨rfl, b1.trans (b2.mono z1)⟩
  | true =>
    have c1 : Hid (∀ w, _) := fun w => quoteYes s w hs h
    have c2 : Hid (∀ w, _) := fun w => unquoteQ s w hs h
    have c3 : Hid (∀ w, _) := fun w => listQ s w hs
    have c4 : Hid (∀ w, _) := fun w => tokenQ s w hs
    generalize quoted s.data.toList = ql at c1 c2 c3 c4
    clear h
    go_enter Tryd.func5, Tryd.ntmps5
    go_wp2_with fail
    refine (alive _).mono ?_
    rintro e w1 ⟨rfl, b1⟩
    go_wp2_with fail
    refine (c1.out _).mono ?_
    rintro e w2 ⟨rfl, b2⟩
    go_wp2_with fail
    refine (c2.out _).mono ?_
    rintro e w3 ⟨rfl, b3⟩
    go_wp2_with fail
    refine (c3.out _).mono ?_
    rintro e w4 ⟨v, rfl, ho⟩
    have Ho : Hid _ := ho
    clear ho
    go_wp2_with fail
    refine (sameTexts v _ [ql] [ql] _ (holds_mono (holds_own Ho.out) (below_alloc _ _)) (holds_lit1 w4 ql) (by simp) (by simp)).mono ?_
    rintro e w5 ⟨rfl, n, rfl⟩
    go_wp2_with fail
    refine (c4.out _).mono ?_
    rintro e w6 ⟨rfl, rfl⟩
    go_wp2_with fail
    go_ret
    have z1 := b1.size
    have z2 := b2.size
    have z3 := b3.size
    have z4 := Ho.out.2.size
    have B := ((b1.trans (b2.mono z1)).trans (b3.mono (by omega))).trans (Ho.out.2.mono (by omega))
    exact ⟨rfl, below_drawn (B.alloc (by omega) _) n⟩
end tokRound
end Go.Proofs.YtegdbieieacalaaDoor
