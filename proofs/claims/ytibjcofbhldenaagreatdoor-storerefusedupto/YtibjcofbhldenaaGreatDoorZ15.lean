/- The bodies of the library's generic functions that are met here are those that the kit's contracts were proved of: the tables of numbers, checked body by body. The bodies of the library's functions that are met here are those that the kit's contracts were proved of: the tables of numbers, checked body by body. Plain: texts in their order as bytes: which comes first; a list of texts that rises, each once. The bodies of the library's generic functions that are met here are those that the kit's contracts were proved of: the tables of numbers, checked body by body. Plain: a disk in the document's words: names in their order, files by their numbers, what is safe; a step, what is read, what is left. A table of numbers that the row lists, out of the row's own condition. Plain: a step that fails changes nothing but the count; no more bytes are seen than there is room for. The contracts of slices.Index and slices.Contains over texts. What the library's table of powers holds, out of the row's own condition; Itoa. The contract of SameTexts: it answers whether the texts are the same. Plain: the disk at its beginning; each file has one name; what is left holds a beginning of what is seen, and at least what is safe; what is safe stays. Worlds that tell less: what is read in one is read in those that tell more; the blocks of one owner hidden; who owns which block. Plain: a life of Appends and Syncs alone; the document's walk over names, one by one. Plain: a disk without faults, by what its names hold; the store's steps in these words. Plain: a table of names as a map reads; changes of names, one behind the other; names in their order, sorted. A disk in memory: its block, its tables, its files, its pending changes; what is as it was where other blocks are written. The library's maps.Keys and slices.Sorted at a table of names; the contract of rising: the names of a table in their order. Steps handed over as function values: the contract of inTurn, whatever the steps are. -/
import Derived.Shelf.SlIter.Nil
import Derived.Shelf.SortM.Plain
import Derived.Shelf.SortM.SortNone
import Derived.Shelf.SlMaps.Clone
import Derived.Test.YtibjcofbhldenaaGreatDoorProg
import Derived.Shelf.Strconv.Itoa3
import GoSem.Op.String
import Derived.Lib.LaidTab
import Derived.MakeChecks
import Derived.Lib.Bytealg
import Derived.Lib.AppendIntMem
import Derived.Lib.ItoaNum
import Derived.Maps.OwnSet
import Derived.Maps.Ext
import Derived.Sort.KeysCollected
import Derived.StringKeys
import Derived.Shelf.Abstract
import Derived.Deep.SlicePairs
import Derived.Test.YtibjcofbhldenaaGreatDoorZ01
namespace Go.Proofs
open Go.Shelf
def Tryz.mkeyi_ren : Go.Shelf.Ren := ⟨fun | 7 => 124 | 10 => 162 | n => n, fun | 23 => 99 | 26 => 9 | 3 => 3 | 28 => 187 | 0 => 0 | 27 => 186 | 33 => 89 | 4 => 4 | n => n, fun | n => n⟩
theorem Tryz.mkeyi : Go.Proofs.SlLaysZ.n7 Tryz.prog Tryz.mkeyi_ren := {
  mixed := by kernel_rfl
  f7 := ⟨Tryz.f124.name, by decide, Tryz.func124.trans (congrArg some (by kernel_rfl))⟩
  f10 := ⟨Tryz.f162.name, by decide, Tryz.func162.trans (congrArg some (by kernel_rfl))⟩
  t0 := Tryz.underlying0
  a0 := Tryz.isAgg0
  z0 := Tryz.sizeOf0
  v0 := Tryz.zeroValue0
  t4 := Tryz.underlying4
  a4 := Tryz.isAgg4
  z4 := Tryz.sizeOf4
  v4 := Tryz.zeroValue4
  t23 := Tryz.underlying99
  a23 := Tryz.isAgg99
  z23 := Tryz.sizeOf99
  v23 := Tryz.zeroValue99
  t26 := Tryz.underlying9
  a26 := Tryz.isAgg9
  z26 := Tryz.sizeOf9
  v26 := Tryz.zeroValue9
  t27 := Tryz.underlying186
  a27 := Tryz.isAgg186
  z27 := Tryz.sizeOf186
  v27 := Tryz.zeroValue186
  t28 := Tryz.underlying187
  a28 := Tryz.isAgg187
  z28 := Tryz.sizeOf187
  v28 := Tryz.zeroValue187
  t33 := Tryz.underlying89
  a33 := Tryz.isAgg89
  z33 := Tryz.sizeOf89
  v33 := Tryz.zeroValue89 }
end Go.Proofs
namespace Go.Proofs
open Go.Shelf
def Tryz.laysM171_ren : Go.Shelf.Ren := ⟨fun | 171 => 154 | 243 => 182 | 246 => 203 | 283 => 227 | 284 => 228 | 285 => 229 | 286 => 230 | 129 => 215 | 317 => 250 | 318 => 251 | 319 => 252 | 320 => 253 | 337 => 266 | 338 => 267 | n => n, fun | 3 => 3 | 9 => 9 | 2 => 2 | 4 => 4 | 171 => 260 | 0 => 0 | 53 => 253 | 37 => 57 | 5 => 5 | 173 => 262 | 212 => 282 | 51 => 203 | 20 => 20 | 213 => 283 | 46 => 202 | 232 => 312 | 233 => 313 | n => n, fun | 17 => 0 | 18 => 2 | 19 => 3 | n => n⟩
theorem Tryz.laysM171 : Go.Proofs.LaysM.n171 Tryz.prog Tryz.laysM171_ren := {
  mixed := by kernel_rfl
  f129 := Tryz.func215.trans (congrArg some (by kernel_rfl))
  f171 := Tryz.func154.trans (congrArg some (by kernel_rfl))
  f243 := Tryz.func182.trans (congrArg some (by kernel_rfl))
  f246 := Tryz.func203.trans (congrArg some (by kernel_rfl))
  f283 := Tryz.func227.trans (congrArg some (by kernel_rfl))
  f284 := Tryz.func228.trans (congrArg some (by kernel_rfl))
  f285 := Tryz.func229.trans (congrArg some (by kernel_rfl))
  f286 := Tryz.func230.trans (congrArg some (by kernel_rfl))
  f317 := Tryz.func250.trans (congrArg some (by kernel_rfl))
  f318 := Tryz.func251.trans (congrArg some (by kernel_rfl))
  f319 := Tryz.func252.trans (congrArg some (by kernel_rfl))
  f320 := Tryz.func253.trans (congrArg some (by kernel_rfl))
  f337 := Tryz.func266.trans (congrArg some (by kernel_rfl))
  f338 := Tryz.func267.trans (congrArg some (by kernel_rfl))
  t0 := Tryz.underlying0
  a0 := Tryz.isAgg0
  z0 := Tryz.sizeOf0
  v0 := Tryz.zeroValue0
  t2 := Tryz.underlying2
  a2 := Tryz.isAgg2
  z2 := Tryz.sizeOf2
  v2 := Tryz.zeroValue2
  t3 := Tryz.underlying3
  a3 := Tryz.isAgg3
  z3 := Tryz.sizeOf3
  v3 := Tryz.zeroValue3
  t4 := Tryz.underlying4
  a4 := Tryz.isAgg4
  z4 := Tryz.sizeOf4
  v4 := Tryz.zeroValue4
  t5 := Tryz.underlying5
  a5 := Tryz.isAgg5
  z5 := Tryz.sizeOf5
  v5 := Tryz.zeroValue5
  t9 := Tryz.underlying9
  a9 := Tryz.isAgg9
  z9 := Tryz.sizeOf9
  v9 := Tryz.zeroValue9
  t20 := Tryz.underlying20
  a20 := Tryz.isAgg20
  z20 := Tryz.sizeOf20
  v20 := Tryz.zeroValue20
  t37 := Tryz.underlying57
  a37 := Tryz.isAgg57
  z37 := Tryz.sizeOf57
  v37 := Tryz.zeroValue57
  t46 := Tryz.underlying202
  a46 := Tryz.isAgg202
  z46 := Tryz.sizeOf202
  v46 := Tryz.zeroValue202
  t51 := Tryz.underlying203
  a51 := Tryz.isAgg203
  z51 := Tryz.sizeOf203
  v51 := Tryz.zeroValue203
  t53 := Tryz.underlying253
  a53 := Tryz.isAgg253
  z53 := Tryz.sizeOf253
  v53 := Tryz.zeroValue253
  t171 := Tryz.underlying260
  a171 := Tryz.isAgg260
  z171 := Tryz.sizeOf260
  v171 := Tryz.zeroValue260
  t173 := Tryz.underlying262
  a173 := Tryz.isAgg262
  z173 := Tryz.sizeOf262
  v173 := Tryz.zeroValue262
  t212 := Tryz.underlying282
  a212 := Tryz.isAgg282
  z212 := Tryz.sizeOf282
  v212 := Tryz.zeroValue282
  t213 := Tryz.underlying283
  a213 := Tryz.isAgg283
  z213 := Tryz.sizeOf283
  t232 := Tryz.underlying312
  a232 := Tryz.isAgg312
  z232 := Tryz.sizeOf312
  v232 := Tryz.zeroValue312
  t233 := Tryz.underlying313
  a233 := Tryz.isAgg313
  z233 := Tryz.sizeOf313
  v233 := Tryz.zeroValue313
  g17 := by kernel_rfl
  g18 := by kernel_rfl
  g19 := by kernel_rfl
  i0 := by kernel_rfl
  i2 := by kernel_rfl
  i3 := by kernel_rfl
  i4 := by kernel_rfl
  i5 := by kernel_rfl
  i9 := by kernel_rfl
  i20 := by kernel_rfl
  i37 := by kernel_rfl
  i46 := by kernel_rfl
  i51 := by kernel_rfl
  i53 := by kernel_rfl
  i171 := by kernel_rfl
  i173 := by kernel_rfl
  i212 := by kernel_rfl
  i232 := by kernel_rfl
  i233 := by kernel_rfl
  m17 := by kernel_rfl
  m18 := by kernel_rfl
  m19 := by kernel_rfl }
end Go.Proofs
namespace Go.Proofs.YtibjcofbhldenaaGreatDoor
open Go.RowKit
abbrev Nm := List UInt8
def lessN (a b : Nm) : Bool := Op.bytesLess a b
theorem less_nil (a : Nm) : lessN a [] = false := by cases a <;> rfl
theorem less_cons (a b : UInt8) (x y : Nm) : lessN (a :: x) (b :: y) = (decide (a < b) || (a == b && lessN x y)) := rfl
theorem less_irrefl : ∀ a : Nm, lessN a a = false := by
  intro a
  induction a with
  | nil => rfl
  | cons c r ih => rw [less_cons, ih]; simp
theorem less_trans : ∀ a b c : Nm, lessN a b = true → lessN b c = true → lessN a c = true := by
  intro a
  induction a with
  | nil =>
    intro b c h1 h2
    cases c with
    | nil => rw [less_nil] at h2; cases h2
    | cons z w => rfl
  | cons x u ih =>
    intro b c h1 h2
    cases b with
    | nil => rw [less_nil] at h1; cases h1
    | cons y v =>
      cases c with
      | nil => rw [less_nil] at h2; cases h2
      | cons z w =>
        rw [less_cons] at h1 h2 ⊢
        simp only [Bool.or_eq_true, decide_eq_true_eq, Bool.and_eq_true, beq_iff_eq] at h1 h2 ⊢
        rcases h1 with h1 | ⟨rfl, h1⟩
        · rcases h2 with h2 | ⟨rfl, h2⟩
          · exact .inl (UInt8.lt_trans h1 h2)
          · exact .inl h1
        · rcases h2 with h2 | ⟨rfl, h2⟩
          · exact .inl h2
          · exact .inr ⟨rfl, ih v w h1 h2⟩
theorem less_total : ∀ a b : Nm, a = b ∨ lessN a b = true ∨ lessN b a = true := by
  intro a
  induction a with
  | nil => intro b; cases b with
    | nil => exact .inl rfl
    | cons y v => exact .inr (.inl rfl)
  | cons x u ih =>
    intro b
    cases b with
    | nil => exact .inr (.inr rfl)
    | cons y v =>
      rw [less_cons, less_cons]
      simp only [Bool.or_eq_true, decide_eq_true_eq, Bool.and_eq_true, beq_iff_eq]
      by_cases h : x = y
      · subst h
        rcases ih v with h1 | h1 | h1
        · exact .inl (by rw [h1])
        · exact .inr (.inl (.inr ⟨rfl, h1⟩))
        · exact .inr (.inr (.inr ⟨rfl, h1⟩))
      · rcases UInt8.lt_or_lt_of_ne h with h1 | h1
        · exact .inr (.inl (.inl h1))
        · exact .inr (.inr (.inl h1))
theorem less_asymm (a b : Nm) (h : lessN a b = true) : lessN b a = false := by
  cases h2 : lessN b a with
  | false => rfl
  | true =>
    have := less_trans a b a h h2
    rw [less_irrefl] at this
    cases this
theorem less_lt : ∀ a b : Nm, lessN a b = true → a < b := by
  intro a
  induction a with
  | nil =>
    intro b h
    cases b with
    | nil => cases h
    | cons y v => exact List.nil_lt_cons y v
  | cons x u ih =>
    intro b h
    cases b with
    | nil => rw [less_nil] at h; cases h
    | cons y v =>
      rw [less_cons] at h
      simp only [Bool.or_eq_true, decide_eq_true_eq, Bool.and_eq_true, beq_iff_eq] at h
      rw [List.cons_lt_cons_iff]
      rcases h with h | ⟨h1, h2⟩
      · exact .inl h
      · exact .inr ⟨h1, ih v h2⟩
end Go.Proofs.YtibjcofbhldenaaGreatDoor
namespace Go.Proofs
open Go.Shelf
def Tryz.mclone_ren : Go.Shelf.Ren := ⟨fun | 5 => 74 | 7 => 121 | n => n, fun | 23 => 117 | 25 => 9 | 3 => 142 | 4 => 4 | 20 => 20 | n => n, fun | n => n⟩
theorem Tryz.mclone : Go.Proofs.SlLaysW.n5 Tryz.prog Tryz.mclone_ren := {
  mixed := by kernel_rfl
  f5 := ⟨Tryz.f74.name, by decide, Tryz.func74.trans (congrArg some (by kernel_rfl))⟩
  f7 := Tryz.func121.trans (congrArg some (by kernel_rfl))
  t4 := Tryz.underlying4
  a4 := Tryz.isAgg4
  z4 := Tryz.sizeOf4
  v4 := Tryz.zeroValue4
  t20 := Tryz.underlying20
  a20 := Tryz.isAgg20
  z20 := Tryz.sizeOf20
  v20 := Tryz.zeroValue20
  t23 := Tryz.underlying117
  a23 := Tryz.isAgg117
  z23 := Tryz.sizeOf117
  v23 := Tryz.zeroValue117 }
def Tryz.mkeys_ren : Go.Shelf.Ren := ⟨fun | 7 => 123 | 10 => 161 | n => n, fun | 23 => 117 | 26 => 9 | 3 => 142 | 28 => 187 | 0 => 0 | 27 => 186 | 33 => 89 | 4 => 4 | n => n, fun | n => n⟩
theorem Tryz.mkeys : Go.Proofs.SlLaysZ.n7 Tryz.prog Tryz.mkeys_ren := {
  mixed := by kernel_rfl
  f7 := ⟨Tryz.f123.name, by decide, Tryz.func123.trans (congrArg some (by kernel_rfl))⟩
  f10 := ⟨Tryz.f161.name, by decide, Tryz.func161.trans (congrArg some (by kernel_rfl))⟩
  t0 := Tryz.underlying0
  a0 := Tryz.isAgg0
  z0 := Tryz.sizeOf0
  v0 := Tryz.zeroValue0
  t4 := Tryz.underlying4
  a4 := Tryz.isAgg4
  z4 := Tryz.sizeOf4
  v4 := Tryz.zeroValue4
  t23 := Tryz.underlying117
  a23 := Tryz.isAgg117
  z23 := Tryz.sizeOf117
  v23 := Tryz.zeroValue117
  t26 := Tryz.underlying9
  a26 := Tryz.isAgg9
  z26 := Tryz.sizeOf9
  v26 := Tryz.zeroValue9
  t27 := Tryz.underlying186
  a27 := Tryz.isAgg186
  z27 := Tryz.sizeOf186
  v27 := Tryz.zeroValue186
  t28 := Tryz.underlying187
  a28 := Tryz.isAgg187
  z28 := Tryz.sizeOf187
  v28 := Tryz.zeroValue187
  t33 := Tryz.underlying89
  a33 := Tryz.isAgg89
  z33 := Tryz.sizeOf89
  v33 := Tryz.zeroValue89 }
def Tryz.ssorted_ren : Go.Shelf.Ren := ⟨fun | 6 => 122 | 8 => 159 | 9 => 160 | 11 => 185 | 13 => 187 | 12 => 186 | 23 => 214 | 24 => 215 | 14 => 205 | 15 => 206 | 16 => 207 | 17 => 208 | 18 => 209 | 19 => 210 | 20 => 211 | 21 => 212 | 22 => 213 | 25 => 232 | 26 => 233 | 27 => 234 | 28 => 235 | 29 => 236 | 30 => 237 | 31 => 254 | n => n, fun | 26 => 9 | 28 => 187 | 24 => 76 | 0 => 0 | 3 => 3 | 37 => 202 | 48 => 203 | 50 => 253 | 4 => 4 | 40 => 246 | 39 => 245 | 45 => 125 | 5 => 5 | 9 => 9 | 51 => 264 | 55 => 268 | 57 => 284 | 58 => 285 | 33 => 89 | n => n, fun | n => n⟩
theorem Tryz.ssorted : Go.Proofs.SlLaysZ.n6 Tryz.prog Tryz.ssorted_ren := {
  mixed := by kernel_rfl
  f6 := ⟨Tryz.f122.name, by decide, Tryz.func122.trans (congrArg some (by kernel_rfl))⟩
  f8 := ⟨Tryz.f159.name, by decide, Tryz.func159.trans (congrArg some (by kernel_rfl))⟩
  f11 := ⟨Tryz.f185.name, by decide, Tryz.func185.trans (congrArg some (by kernel_rfl))⟩
  t0 := Tryz.underlying0
  a0 := Tryz.isAgg0
  z0 := Tryz.sizeOf0
  v0 := Tryz.zeroValue0
  t24 := Tryz.underlying76
  a24 := Tryz.isAgg76
  z24 := Tryz.sizeOf76
  v24 := Tryz.zeroValue76
  t26 := Tryz.underlying9
  a26 := Tryz.isAgg9
  z26 := Tryz.sizeOf9
  v26 := Tryz.zeroValue9
  t28 := Tryz.underlying187
  a28 := Tryz.isAgg187
  z28 := Tryz.sizeOf187
  v28 := Tryz.zeroValue187
  i26 := by kernel_rfl }
def Tryz.ssort_ren : Go.Shelf.Ren := ⟨fun | 6 => 160 | 8 => 187 | 9 => 186 | 19 => 214 | 20 => 215 | 21 => 205 | 22 => 206 | 23 => 207 | 24 => 208 | 25 => 209 | 26 => 210 | 27 => 211 | 28 => 212 | 29 => 213 | 36 => 232 | 31 => 233 | 32 => 234 | 37 => 235 | 38 => 236 | 39 => 237 | 41 => 254 | n => n, fun | 27 => 76 | 29 => 9 | 3 => 3 | 32 => 202 | 26 => 76 | 0 => 0 | 44 => 203 | 46 => 253 | 4 => 4 | 36 => 246 | 35 => 245 | 41 => 125 | 5 => 5 | 9 => 9 | 53 => 264 | 57 => 268 | 63 => 284 | 64 => 285 | n => n, fun | n => n⟩
theorem Tryz.ssort : Go.Proofs.SlLaysM.n6 Tryz.prog Tryz.ssort_ren := {
  mixed := by kernel_rfl
  f6 := ⟨Tryz.f160.name, by decide, Tryz.func160.trans (congrArg some (by kernel_rfl))⟩
  f8 := Tryz.func187.trans (congrArg some (by kernel_rfl))
  f9 := ⟨Tryz.f186.name, by decide, Tryz.func186.trans (congrArg some (by kernel_rfl))⟩
  f19 := Tryz.func214.trans (congrArg some (by kernel_rfl))
  f20 := Tryz.func215.trans (congrArg some (by kernel_rfl))
  f21 := ⟨Tryz.f205.name, by decide, Tryz.func205.trans (congrArg some (by kernel_rfl))⟩
  f22 := ⟨Tryz.f206.name, by decide, Tryz.func206.trans (congrArg some (by kernel_rfl))⟩
  f23 := ⟨Tryz.f207.name, by decide, Tryz.func207.trans (congrArg some (by kernel_rfl))⟩
  f24 := ⟨Tryz.f208.name, by decide, Tryz.func208.trans (congrArg some (by kernel_rfl))⟩
  f25 := ⟨Tryz.f209.name, by decide, Tryz.func209.trans (congrArg some (by kernel_rfl))⟩
  f26 := ⟨Tryz.f210.name, by decide, Tryz.func210.trans (congrArg some (by kernel_rfl))⟩
  f27 := ⟨Tryz.f211.name, by decide, Tryz.func211.trans (congrArg some (by kernel_rfl))⟩
  f28 := ⟨Tryz.f212.name, by decide, Tryz.func212.trans (congrArg some (by kernel_rfl))⟩
  f29 := ⟨Tryz.f213.name, by decide, Tryz.func213.trans (congrArg some (by kernel_rfl))⟩
  f31 := Tryz.func233.trans (congrArg some (by kernel_rfl))
  f32 := Tryz.func234.trans (congrArg some (by kernel_rfl))
  f36 := ⟨Tryz.f232.name, by decide, Tryz.func232.trans (congrArg some (by kernel_rfl))⟩
  f37 := ⟨Tryz.f235.name, by decide, Tryz.func235.trans (congrArg some (by kernel_rfl))⟩
  f38 := ⟨Tryz.f236.name, by decide, Tryz.func236.trans (congrArg some (by kernel_rfl))⟩
  f39 := ⟨Tryz.f237.name, by decide, Tryz.func237.trans (congrArg some (by kernel_rfl))⟩
  f41 := ⟨Tryz.f254.name, by decide, Tryz.func254.trans (congrArg some (by kernel_rfl))⟩
  t0 := Tryz.underlying0
  a0 := Tryz.isAgg0
  z0 := Tryz.sizeOf0
  v0 := Tryz.zeroValue0
  t3 := Tryz.underlying3
  a3 := Tryz.isAgg3
  z3 := Tryz.sizeOf3
  v3 := Tryz.zeroValue3
  t4 := Tryz.underlying4
  a4 := Tryz.isAgg4
  z4 := Tryz.sizeOf4
  v4 := Tryz.zeroValue4
  t5 := Tryz.underlying5
  a5 := Tryz.isAgg5
  z5 := Tryz.sizeOf5
  v5 := Tryz.zeroValue5
  t9 := Tryz.underlying9
  a9 := Tryz.isAgg9
  z9 := Tryz.sizeOf9
  v9 := Tryz.zeroValue9
  t26 := Tryz.underlying76
  a26 := Tryz.isAgg76
  z26 := Tryz.sizeOf76
  v26 := Tryz.zeroValue76
  t27 := Tryz.underlying76
  a27 := Tryz.isAgg76
  z27 := Tryz.sizeOf76
  v27 := Tryz.zeroValue76
  t29 := Tryz.underlying9
  a29 := Tryz.isAgg9
  z29 := Tryz.sizeOf9
  v29 := Tryz.zeroValue9
  t32 := Tryz.underlying202
  a32 := Tryz.isAgg202
  z32 := Tryz.sizeOf202
  v32 := Tryz.zeroValue202
  t35 := Tryz.underlying245
  a35 := Tryz.isAgg245
  z35 := Tryz.sizeOf245
  v35 := Tryz.zeroValue245
  t36 := Tryz.underlying246
  a36 := Tryz.isAgg246
  z36 := Tryz.sizeOf246
  v36 := Tryz.zeroValue246
  t41 := Tryz.underlying125
  a41 := Tryz.isAgg125
  z41 := Tryz.sizeOf125
  v41 := Tryz.zeroValue125
  t44 := Tryz.underlying203
  a44 := Tryz.isAgg203
  z44 := Tryz.sizeOf203
  v44 := Tryz.zeroValue203
  t46 := Tryz.underlying253
  a46 := Tryz.isAgg253
  z46 := Tryz.sizeOf253
  v46 := Tryz.zeroValue253
  t53 := Tryz.underlying264
  a53 := Tryz.isAgg264
  z53 := Tryz.sizeOf264
  v53 := Tryz.zeroValue264
  t57 := Tryz.underlying268
  a57 := Tryz.isAgg268
  z57 := Tryz.sizeOf268
  v57 := Tryz.zeroValue268
  t63 := Tryz.underlying284
  a63 := Tryz.isAgg284
  z63 := Tryz.sizeOf284
  v63 := Tryz.zeroValue284
  t64 := Tryz.underlying285
  a64 := Tryz.isAgg285
  z64 := Tryz.sizeOf285
  v64 := Tryz.zeroValue285 }
end Go.Proofs
namespace Go.Proofs.YtibjcofbhldenaaGreatDoor
open Go.RowKit
abbrev NL := List (Nm × Nat)
/-! names in their order -/
def SortedN (l : NL) : Prop := l.Pairwise (fun a b => lessN a.1 b.1 = true)
def delN (l : NL) (name : Nm) : NL := l.filter (fun p => decide (p.1 ≠ name))
def insN (name : Nm) (no : Nat) : NL → NL
  | [] => [(name, no)]
  | p :: r => if lessN name p.1 = true then (name, no) :: p :: r else p :: insN name no r
def putN (l : NL) (name : Nm) (no : Nat) : NL := insN name no (delN l name)
def atN (l : NL) (name : Nm) : Option Nat := (l.find? (fun p => decide (p.1 = name))).map (fun p => p.2)
theorem mem_del {l : NL} {name : Nm} {p : Nm × Nat} : p ∈ delN l name ↔ p ∈ l ∧ p.1 ≠ name := by unfold delN; simp
theorem mem_ins {name : Nm} {no : Nat} {p : Nm × Nat} : ∀ {l : NL}, p ∈ insN name no l ↔ p = (name, no) ∨ p ∈ l := by
  intro l
  induction l with
  | nil => simp [insN]
  | cons q r ih =>
    unfold insN
    split
    · simp
    · rw [List.mem_cons, ih, List.mem_cons]
      constructor
      · rintro (h | h | h)
        · exact .inr (.inl h)
        · exact .inl h
        · exact .inr (.inr h)
      · rintro (h | h | h)
        · exact .inr (.inl h)
        · exact .inl h
        · exact .inr (.inr h)
theorem sorted_del {l : NL} (h : SortedN l) (name : Nm) : SortedN (delN l name) := h.filter _
theorem sorted_ins {name : Nm} {no : Nat} : ∀ {l : NL}, SortedN l → (∀ p ∈ l, p.1 ≠ name) → SortedN (insN name no l) := by
  intro l
  induction l with
  | nil => intro _ _; exact List.pairwise_singleton _ _
  | cons q r ih =>
    intro hs hn
    obtain ⟨h1, h2⟩ := List.pairwise_cons.1 hs
    unfold insN
    split
    · rename_i hl
      refine List.pairwise_cons.2 ⟨fun p hp => ?_, hs⟩
      rcases List.mem_cons.1 hp with rfl | hp
      · exact hl
      · exact less_trans _ _ _ hl (h1 p hp)
    · rename_i hl
      refine List.pairwise_cons.2 ⟨fun p hp => ?_, ih h2 (fun p hp => hn p (List.mem_cons_of_mem _ hp))⟩
      rcases mem_ins.1 hp with rfl | hp
      · rcases less_total q.1 name with h | h | h
        · exact absurd h (hn q (List.mem_cons_self ..))
        · exact h
        · exact absurd h hl
      · exact h1 p hp
theorem sorted_put {l : NL} (h : SortedN l) (name : Nm) (no : Nat) : SortedN (putN l name no) :=
  sorted_ins (sorted_del h name) (fun _ hp => (mem_del.1 hp).2)
theorem mem_put {l : NL} {name : Nm} {no : Nat} {p : Nm × Nat} : p ∈ putN l name no ↔ p = (name, no) ∨ (p ∈ l ∧ p.1 ≠ name) := by unfold putN; rw [mem_ins, mem_del]
theorem at_some {l : NL} {name : Nm} {k : Nat} (h : atN l name = some k) : (name, k) ∈ l := by
  unfold atN at h
  obtain ⟨p, hp, rfl⟩ := Option.map_eq_some_iff.1 h
  have h1 := List.find?_some hp
  have h2 := List.mem_of_find?_eq_some hp
  simp only [decide_eq_true_eq] at h1
  rw [← h1]
  exact h2
theorem at_none {l : NL} {name : Nm} (h : atN l name = none) : ∀ p ∈ l, p.1 ≠ name := by
  unfold atN at h
  rw [Option.map_eq_none_iff, List.find?_eq_none] at h
  intro p hp e
  exact h p hp (by simpa using e)
theorem sorted_one {l : NL} (h : SortedN l) : ∀ {p q : Nm × Nat}, p ∈ l → q ∈ l → p.1 = q.1 → p = q := by
  induction l with
  | nil => intro p q hp; cases hp
  | cons x r ih =>
    intro p q hp hq e
    obtain ⟨h1, h2⟩ := List.pairwise_cons.1 h
    rcases List.mem_cons.1 hp with hp1 | hp1
    · rcases List.mem_cons.1 hq with hq1 | hq1
      · rw [hp1, hq1]
      · have := h1 q hq1
        rw [← hp1, e, less_irrefl] at this
        cases this
    · rcases List.mem_cons.1 hq with hq1 | hq1
      · have := h1 p hp1
        rw [← hq1, e, less_irrefl] at this
        cases this
      · exact ih h2 hp1 hq1 e
theorem at_mem {l : NL} (h : SortedN l) {name : Nm} {k : Nat} (hm : (name, k) ∈ l) : atN l name = some k := by
  cases e : atN l name with
  | none => exact absurd rfl (at_none e _ hm)
  | some j =>
    have := sorted_one h (at_some e) hm rfl
    simp only [Prod.mk.injEq] at this
    rw [this.2]
/-! the disk -/
def goodC (c : UInt8) : Bool := decide ((97 ≤ c.toNat ∧ c.toNat ≤ 122) ∨ (48 ≤ c.toNat ∧ c.toNat ≤ 57) ∨ c = 46 ∨ c = 45 ∨ c = 95 ∨ c = 47)
def goodN (l : Nm) : Bool := l.all goodC && (decide (1 ≤ l.length) && decide (l.length ≤ 64))
structure Dk where
  now : NL
  safe : NL
  pend : List NL
  data : List (List UInt8)
  firm : List Nat
  room : Int
  fails : List Int
  power : Int
  n : Nat
structure DOp where
  what : Int
  name : Nm
  to : Nm
  data : List UInt8
def Dk.down (s : Dk) : Bool := decide (0 ≤ s.power ∧ (s.n : Int) = s.power)
def Dk.used (s : Dk) : Nat := (s.now.map (fun p => (s.data.getD p.2 []).length)).sum
def Dk.named (s : Dk) (l : NL) : Dk := { s with now := l, pend := s.pend ++ [l] }
def Dk.fault (s : Dk) : Bool := decide (((s.n + 1 : Nat) : Int) ∈ s.fails)
/-- what a step does where nothing stands against it -/
def Dk.act (s : Dk) (o : DOp) (k : Nat) : Dk × Int :=
  if o.what = 1 then ({ s with data := s.data ++ [[]], firm := s.firm ++ [0] }.named (putN s.now o.name s.data.length), 0)
  else if o.what = 2 then (if o.data ≠ [] ∧ s.room < ((s.used + o.data.length : Nat) : Int) then (s, 92) else ({ s with data := s.data.set k (s.data.getD k [] ++ o.data) }, 0))
  else if o.what = 3 then ({ s with firm := s.firm.set k (s.data.getD k []).length }, 0)
  else if o.what = 4 then ({ s with safe := s.now, pend := [] }, 0)
  else if o.what = 5 then (if o.name = o.to then (s, 0) else (s.named (putN (delN s.now o.name) o.to k), 0))
  else (s.named (delN s.now o.name), 0)
def Dk.step (s : Dk) (o : DOp) : Dk × Int :=
  if s.down = true then (s, 93)
  else if s.fault = true then ({ s with n := s.n + 1 }, 94)
  else if (o.what ≠ 4 ∧ goodN o.name = false) ∨ (o.what = 5 ∧ goodN o.to = false) then ({ s with n := s.n + 1 }, 95)
  else match atN s.now o.name with
    | none => if o.what = 1 ∨ o.what = 4 then { s with n := s.n + 1 }.act o 0 else ({ s with n := s.n + 1 }, 90)
    | some k => if o.what = 1 then ({ s with n := s.n + 1 }, 91) else { s with n := s.n + 1 }.act o k
def Dk.read (s : Dk) (name : Nm) : List UInt8 × Int :=
  if s.down = true then ([], 93) else if goodN name = false then ([], 95) else match atN s.now name with | none => ([], 90) | some k => (s.data.getD k [], 0)
def Dk.list (s : Dk) : List Nm := if s.down = true then [] else s.now.map (fun p => p.1)
/-- names in order, good, each of a file -/
def WfN (s : Dk) (l : NL) : Prop := SortedN l ∧ ∀ p ∈ l, p.2 < s.data.length ∧ goodN p.1 = true
structure Wf (s : Dk) : Prop where
  len : s.firm.length = s.data.length
  firm : ∀ i, s.firm.getD i 0 ≤ (s.data.getD i []).length
  now : WfN s s.now
  safe : WfN s s.safe
  pend : ∀ l ∈ s.pend, WfN s l
theorem wf_count {s : Dk} (h : Wf s) (n : Nat) : Wf { s with n := n } := ⟨h.len, h.firm, h.now, h.safe, h.pend⟩
theorem wfN_more {s : Dk} {l : NL} (h : WfN s l) {d : List (List UInt8)} {f : List Nat} (hd : s.data.length ≤ d.length) : WfN { s with data := d, firm := f } l := ⟨h.1, fun p hp => ⟨Nat.lt_of_lt_of_le (h.2 p hp).1 hd, (h.2 p hp).2⟩⟩
theorem wf_named {s : Dk} (h : Wf s) {l : NL} (hl : WfN s l) : Wf (s.named l) :=
  ⟨h.len, h.firm, hl, h.safe, fun x hx => by
    rcases List.mem_append.1 hx with hx | hx
    · exact h.pend x hx
    · rw [List.mem_singleton.1 hx]; exact hl⟩
theorem getD_set (l : List (List UInt8)) (k i : Nat) (x : List UInt8) : (l.set k x).getD i [] = if i = k ∧ k < l.length then x else l.getD i [] := by
  by_cases h : i = k
  · subst h
    by_cases hl : i < l.length
    · simp [List.getD, hl]
    · simp [List.getD, hl]
  · simp [List.getD, h, Ne.symm h]
theorem getD_setN (l : List Nat) (k i x : Nat) : (l.set k x).getD i 0 = if i = k ∧ k < l.length then x else l.getD i 0 := by
  by_cases h : i = k
  · subst h
    by_cases hl : i < l.length
    · simp [List.getD, hl]
    · simp [List.getD, hl]
  · simp [List.getD, h, Ne.symm h]
/-- a step keeps a disk in order -/
theorem wf_act {s : Dk} (h : Wf s) (o : DOp) (k : Nat) (hk : o.what = 1 ∨ o.what = 4 ∨ (o.name, k) ∈ s.now) (hg : o.what = 4 ∨ goodN o.name = true) (ht : o.what ≠ 5 ∨ goodN o.to = true) : Wf (s.act o k).1 := by
  unfold Dk.act
  split
  · rename_i hw
    have hl : s.data.length ≤ (s.data ++ [[]]).length := by simp
    refine wf_named (s := { s with data := s.data ++ [[]], firm := s.firm ++ [0] }) ⟨by simp [h.len], fun i => ?_, wfN_more (d := s.data ++ [[]]) (f := s.firm ++ [0]) h.now hl, wfN_more (d := s.data ++ [[]]) (f := s.firm ++ [0]) h.safe hl, fun l hx => wfN_more (d := s.data ++ [[]]) (f := s.firm ++ [0]) (h.pend l hx) hl⟩ ⟨sorted_put h.now.1 _ _, fun p hp => ?_⟩
    · rcases Nat.lt_trichotomy i s.firm.length with hi | hi | hi
      · have := h.firm i
        have hi2 : i < s.data.length := by rw [← h.len]; exact hi
        simp only [List.getD, List.getElem?_append_left hi, List.getElem?_append_left hi2]
        exact this
      · have hi2 : i = s.data.length := by rw [← h.len]; exact hi
        simp [List.getD, hi]
      · have : ¬ i < (s.firm ++ [0]).length := by simp; omega
        simp [List.getD, List.getElem?_eq_none (Nat.le_of_not_lt this)]
    · rcases mem_put.1 hp with rfl | ⟨hp, _⟩
      · refine ⟨by simp, ?_⟩
        rcases hg with hg | hg
        · rw [hw] at hg; cases hg
        · exact hg
      · exact ⟨Nat.lt_of_lt_of_le (h.now.2 p hp).1 hl, (h.now.2 p hp).2⟩
  · split
    · split
      · exact h
      · have hl : s.data.length ≤ (s.data.set k (s.data.getD k [] ++ o.data)).length := by simp
        refine ⟨by simp [h.len], fun i => ?_, wfN_more h.now hl, wfN_more h.safe hl, fun l hx => wfN_more (h.pend l hx) hl⟩
        have := h.firm i
        show s.firm.getD i 0 ≤ ((s.data.set k (s.data.getD k [] ++ o.data)).getD i []).length
        rw [getD_set]
        split
        · rename_i e
          rw [List.length_append, ← e.1]
          omega
        · exact this
    · split
      · refine ⟨by simp [h.len], fun i => ?_, ⟨h.now.1, h.now.2⟩, ⟨h.safe.1, h.safe.2⟩, fun l hx => ⟨(h.pend l hx).1, (h.pend l hx).2⟩⟩
        have := h.firm i
        show (s.firm.set k (s.data.getD k []).length).getD i 0 ≤ (s.data.getD i []).length
        rw [getD_setN]
        split
        · rename_i e; rw [e.1]; exact Nat.le_refl _
        · exact this
      · split
        · exact ⟨h.len, h.firm, h.now, h.now, fun l hx => by cases hx⟩
        · rename_i n1 n2 n3 n4
          have hm : (o.name, k) ∈ s.now := by
            rcases hk with hk | hk | hk
            · exact absurd hk n1
            · exact absurd hk n4
            · exact hk
          split
          · split
            · exact h
            · refine wf_named h ⟨sorted_put (sorted_del h.now.1 _) _ _, fun p hp => ?_⟩
              rcases mem_put.1 hp with rfl | ⟨hp, _⟩
              · refine ⟨(h.now.2 _ hm).1, ?_⟩
                rcases ht with ht | ht
                · rename_i h5 _; exact absurd h5 ht
                · exact ht
              · exact h.now.2 p (mem_del.1 hp).1
          · exact wf_named h ⟨sorted_del h.now.1 _, fun p hp => h.now.2 p (mem_del.1 hp).1⟩
theorem wf_step {s : Dk} (h : Wf s) (o : DOp) : Wf (s.step o).1 := by
  unfold Dk.step
  split
  · exact h
  · split
    · exact wf_count h _
    · split
      · exact wf_count h _
      · rename_i hn
        have hg : o.what = 4 ∨ goodN o.name = true := by
          by_cases h4 : o.what = 4
          · exact .inl h4
          · exact .inr (by cases e : goodN o.name with | true => rfl | false => exact absurd (.inl ⟨h4, e⟩) hn)
        have ht : o.what ≠ 5 ∨ goodN o.to = true := by
          by_cases h5 : o.what = 5
          · exact .inr (by cases e : goodN o.to with | true => rfl | false => exact absurd (.inr ⟨h5, e⟩) hn)
          · exact .inl h5
        split
        · split
          · rename_i hw
            refine wf_act (wf_count h _) o 0 ?_ hg ht
            rcases hw with hw | hw
            · exact .inl hw
            · exact .inr (.inl hw)
          · exact wf_count h _
        · rename_i k e
          split
          · exact wf_count h _
          · exact wf_act (wf_count h _) o k (.inr (.inr (at_some e))) hg ht
end Go.Proofs.YtibjcofbhldenaaGreatDoor
namespace Go.Proofs.YtibjcofbhldenaaGreatDoor
open Go.RowKit
theorem laid_mem {P : Program} {w : World} {n : String} {d : DataW Unit} : ∀ {l : List (String × DataW Unit)} {ps : List MemPlace}, DataW.LaidVars P w l ps → (n, d) ∈ l →
    ∃ (ps' : List MemPlace), DataW.LaidVars P w [(n, d)] ps' := by
  intro l
  induction l with
  | nil => intro ps _ hm; cases hm
  | cons x r ih =>
    intro ps h hm
    obtain ⟨n0, d0⟩ := x
    obtain ⟨g, t, cs, fuel, p, q, e1, e2, e3, e4, hr, rfl⟩ := h
    rcases List.mem_cons.1 hm with hm | hm
    · cases hm
      exact ⟨_, g, t, cs, fuel, p, [], e1, e2, e3, e4, rfl, rfl⟩
    · exact ih hr hm
theorem var_ints {W : World} {l : List (String × DataW Unit)} (h : laidMet Tryz.prog l W) {n : String} {zs : List Int} {k : IntKind} (hm : (n, Lib.tabData k zs) ∈ l) {g : Nat} {t e : TypeId} {c : Nat}
    (hg : Tryz.prog.globalNamed n = some g) (hty : (Tryz.prog.globals[g]?).map (·.type) = some t) (ht : Tryz.prog.underlying t = some (.array c e)) (he : Tryz.prog.underlying e = some (.int k)) (hce : Tryz.prog.cellsOf e = 1) (hct : Tryz.prog.cellsOf t = c) :
    Lib.TabIs Tryz.prog W n k zs := by
  obtain ⟨ps, hl, _⟩ := h
  obtain ⟨ps', g', t', cs, fuel, p, q, hg', ht', hvar, hd, _, _⟩ := laid_mem hl hm
  obtain rfl := Option.some.inj (hg.symm.trans hg')
  obtain rfl := Option.some.inj (hty.symm.trans ht')
  unfold Lib.TabIs
  rw [hvar, ← Lib.cells_of_tab ht he hce hct hd]
end Go.Proofs.YtibjcofbhldenaaGreatDoor
namespace Go.Proofs.YtibjcofbhldenaaGreatDoor
open Go.RowKit
/-- the bytes of these names' files -/
def sumN (d : List (List UInt8)) (l : NL) : Nat := (l.map (fun p => (d.getD p.2 []).length)).sum
theorem sum_del (d : List (List UInt8)) (l : NL) (name : Nm) : sumN d (delN l name) ≤ sumN d l := by
  induction l with
  | nil => exact Nat.le_refl _
  | cons q r ih =>
    unfold delN sumN at *
    rw [List.filter_cons]
    split
    · simp only [List.map_cons, List.sum_cons]; omega
    · simp only [List.map_cons, List.sum_cons]; omega
theorem sum_out (d : List (List UInt8)) {l : NL} {name : Nm} {k : Nat} (h : (name, k) ∈ l) : sumN d (delN l name) + (d.getD k []).length ≤ sumN d l := by
  induction l with
  | nil => cases h
  | cons q r ih =>
    have hd := sum_del d r name
    rcases List.mem_cons.1 h with h1 | h1
    · have e : delN (q :: r) name = delN r name := by unfold delN; rw [List.filter_cons, ← h1]; simp
      rw [e]
      unfold sumN at *
      simp only [List.map_cons, List.sum_cons, ← h1]
      omega
    · have := ih h1
      unfold delN at *
      rw [List.filter_cons]
      split
      · unfold sumN at *
        simp only [List.map_cons, List.sum_cons]
        omega
      · unfold sumN at *
        simp only [List.map_cons, List.sum_cons]
        omega
theorem sum_ins (d : List (List UInt8)) (name : Nm) (no : Nat) : ∀ l : NL, sumN d (insN name no l) = sumN d l + (d.getD no []).length := by
  intro l
  induction l with
  | nil => simp [insN, sumN]
  | cons q r ih =>
    unfold insN
    split
    · unfold sumN; simp only [List.map_cons, List.sum_cons]; omega
    · have : sumN d (q :: insN name no r) = (d.getD q.2 []).length + sumN d (insN name no r) := by unfold sumN; simp
      rw [this, ih]
      unfold sumN
      simp only [List.map_cons, List.sum_cons]
      omega
theorem sum_put (d : List (List UInt8)) (l : NL) (name : Nm) (no : Nat) : sumN d (putN l name no) ≤ sumN d l + (d.getD no []).length := by
  unfold putN
  rw [sum_ins]
  have := sum_del d l name
  omega
theorem used_sum (s : Dk) : s.used = sumN s.data s.now := rfl
/-- each number stands once -/
def Once (l : NL) : Prop := (l.map (fun p => p.2)).Nodup
theorem sum_same {d e : List (List UInt8)} {l : NL} (h : ∀ p ∈ l, (e.getD p.2 []).length = (d.getD p.2 []).length) : sumN e l = sumN d l := by
  unfold sumN
  congr 1
  exact List.map_congr_left h
theorem sum_set {d : List (List UInt8)} {l : NL} {k : Nat} (x : List UInt8) (hk : k < d.length) (ho : Once l) : sumN (d.set k x) l ≤ sumN d l + (x.length - (d.getD k []).length) := by
  induction l with
  | nil => exact Nat.zero_le _
  | cons q r ih =>
    have ho2 : Once r := (List.nodup_cons.1 ho).2
    have hn : q.2 ∉ r.map (fun p => p.2) := (List.nodup_cons.1 ho).1
    by_cases e : q.2 = k
    · have hs : sumN (d.set k x) r = sumN d r := sum_same (fun p hp => by
        rw [getD_set, if_neg (fun h => hn (by rw [e, ← h.1]; exact List.mem_map_of_mem hp))])
      have h1 : sumN (d.set k x) (q :: r) = ((d.set k x).getD q.2 []).length + sumN (d.set k x) r := by unfold sumN; simp
      have h2 : sumN d (q :: r) = (d.getD q.2 []).length + sumN d r := by unfold sumN; simp
      rw [h1, h2, hs, getD_set, if_pos ⟨e, hk⟩, e]
      omega
    · have h1 : sumN (d.set k x) (q :: r) = ((d.set k x).getD q.2 []).length + sumN (d.set k x) r := by unfold sumN; simp
      have h2 : sumN d (q :: r) = (d.getD q.2 []).length + sumN d r := by unfold sumN; simp
      have := ih ho2
      rw [h1, h2, getD_set, if_neg (fun h => e h.1)]
      omega
/-- no more bytes are seen than before, or than there is room for -/
theorem used_act (s : Dk) (o : DOp) (k : Nat) (hk : o.what = 1 ∨ o.what = 4 ∨ ((o.name, k) ∈ s.now ∧ k < s.data.length)) (ho : Once s.now) (hw : ∀ p ∈ s.now, p.2 < s.data.length) : (s.act o k).1.used ≤ s.used ∨ (((s.act o k).1.used : Nat) : Int) ≤ s.room := by
  unfold Dk.act
  by_cases h1 : o.what = 1
  · rw [if_pos h1]
    left
    show sumN (s.data ++ [[]]) (putN s.now o.name s.data.length) ≤ sumN s.data s.now
    have a := sum_put (s.data ++ [[]]) s.now o.name s.data.length
    have b : sumN (s.data ++ [[]]) s.now = sumN s.data s.now := sum_same (fun p hp => by simp [List.getD, List.getElem?_append_left (hw p hp)])
    have c : ((s.data ++ [[]]).getD s.data.length []).length = 0 := by simp [List.getD]
    omega
  · rw [if_neg h1]
    by_cases h2 : o.what = 2
    · rw [if_pos h2]
      have hm : (o.name, k) ∈ s.now ∧ k < s.data.length := by
        rcases hk with hk | hk | hk
        · exact absurd hk h1
        · omega
        · exact hk
      split
      · exact .inl (Nat.le_refl _)
      · rename_i h3
        have a := sum_set (s.data.getD k [] ++ o.data) hm.2 ho
        rw [List.length_append] at a
        by_cases hd : o.data = []
        · left
          show sumN (s.data.set k (s.data.getD k [] ++ o.data)) s.now ≤ sumN s.data s.now
          rw [hd] at a ⊢
          simp only [List.length_nil] at a
          omega
        · right
          show ((sumN (s.data.set k (s.data.getD k [] ++ o.data)) s.now : Nat) : Int) ≤ s.room
          have b : ¬ s.room < ((s.used + o.data.length : Nat) : Int) := fun h => h3 ⟨hd, h⟩
          rw [used_sum] at b
          omega
    · rw [if_neg h2]
      by_cases h3 : o.what = 3
      · rw [if_pos h3]; exact .inl (Nat.le_refl _)
      · rw [if_neg h3]
        by_cases h4 : o.what = 4
        · rw [if_pos h4]; exact .inl (Nat.le_refl _)
        · rw [if_neg h4]
          have hm : (o.name, k) ∈ s.now := by
            rcases hk with hk | hk | hk
            · exact absurd hk h1
            · exact absurd hk h4
            · exact hk.1
          by_cases h5 : o.what = 5
          · rw [if_pos h5]
            split
            · exact .inl (Nat.le_refl _)
            · left
              show sumN s.data (putN (delN s.now o.name) o.to k) ≤ sumN s.data s.now
              have a := sum_put s.data (delN s.now o.name) o.to k
              have b := sum_out s.data hm
              omega
          · rw [if_neg h5]
            left
            exact sum_del s.data s.now o.name
end Go.Proofs.YtibjcofbhldenaaGreatDoor
namespace Go.Proofs.YtibjcofbhldenaaGreatDoor
open Go.RowKit
theorem holds_partsC {w : World} {v : Value} {ss : List (List UInt8)} (h : Holds w v ss) : ∃ ao cap b off, v = .slice ao ss.length cap ∧ (0 < ss.length → ao = some ⟨b, off, none⟩ ∧ b < w.heap.size ∧ ∀ j (h : j < ss.length), w.cell? ⟨b, off + j, none⟩ = some (S ss[j])) := by
  obtain ⟨ao, cap, rfl, hc⟩ := h
  by_cases he : ss = []
  · subst he; exact ⟨ao, cap, 0, 0, rfl, fun h => absurd h (by simp)⟩
  · obtain ⟨b, off, h1, h2, h3⟩ := hc he
    exact ⟨ao, cap, b, off, rfl, fun _ => ⟨h1, h2, h3⟩⟩
theorem ba_eqlC (a b : List UInt8) (h : ¬ a = b) : ((⟨a.toArray⟩ : ByteArray).toList == (⟨b.toArray⟩ : ByteArray).toList) = false := by
  rw [Lib.toList_data, Lib.toList_data]; simpa using h
set_option maxHeartbeats 1000000 in
theorem indexS (v : Value) (ws : List (List UInt8)) (x : List UInt8) (w : World) (hv : Holds w v ws) (hl : ws.length ≤ 1000000000000000) :
    Calls Tryz.prog 171 #[v, .string ⟨x.toArray⟩] w fun e w' => ∃ i : Int, e = .returned (.int .i64 i) ∧ Hid (decide (0 ≤ i) = decide (x ∈ ws)) ∧ -1 ≤ i ∧ i ≤ 1000000000000000 ∧ w' = w := by
  obtain ⟨ao, ca, b, o, rfl, hc⟩ := holds_partsC hv
  have C := hide' hc
  clear hv hc
  obtain ⟨n, en⟩ : ∃ n, n = ws.length := ⟨_, rfl⟩
  have N : Hid (ws.length = n) := en.symm
  rw [N.out] at hl ⊢
  clear en
  go_enter Tryz.func171, Tryz.ntmps171
  go_wp2_with fail
  go_loop [8] (fun i => ∃ k : Nat, k ≤ n ∧ i = .int .i64 k ∧ Hid (∀ j (h : j < ws.length), j < k → ¬ x = ws[j])) (fun i => n - (intOf i).toNat)
  case atStart => exact ⟨0, Nat.zero_le _, rfl, fun j h hj => absurd hj (by omega)⟩
  case round =>
    obtain ⟨k, hk, rfl, A⟩ := hrel
    by_cases hlt : k < n
    · have G : Hid (k < ws.length) := by unfold Hid; rw [N.out]; exact hlt
      obtain ⟨hao, hblt, hcell⟩ := C.out (by have := G.out; omega)
      subst hao
      have ck := hcell k G.out
      unfold S at ck
      clear hcell
      by_cases he : x = ws[k]'G.out
      · have M : Hid (x ∈ ws) := by unfold Hid; rw [he]; exact List.getElem_mem _
        rw [← he] at ck
        clear he
        go_wp2_with fail
        go_ret
        exact ⟨(k : Int), rfl, by have m := M.out; unfold Hid; simp [m], by omega, by omega, rfl⟩
      · have A2 : Hid (∀ j (h : j < ws.length), j < k + 1 → ¬ x = ws[j]) := by
          intro j h hj
          by_cases hjk : j = k
          · subst hjk; exact he
          · exact A.out j h (by omega)
        have hne := ba_eqlC _ _ he
        have hne2 : (x == ws[k]'G.out) = false := by simpa using he
        clear he
        generalize ws[k]'G.out = q at ck hne hne2
        go_wp2_with fail
        go_round
        case rel => exact ⟨k + 1, by omega, by go_num, A2⟩
        case measure => simp [intOf]; omega
    · have M : Hid (¬ x ∈ ws) := by
        intro hm
        obtain ⟨j, hj, e⟩ := List.getElem_of_mem hm
        exact A.out j hj (by have := N.out; omega) e.symm
      go_wp2_with fail
      go_ret
      exact ⟨-1, rfl, by have m := M.out; unfold Hid; simp [m], by omega, by omega, rfl⟩
set_option maxHeartbeats 400000 in
theorem containsS (v : Value) (ws : List (List UInt8)) (x : List UInt8) (w : World) (hv : Holds w v ws) (hl : ws.length ≤ 1000000000000000) :
    Calls Tryz.prog 130 #[v, .string ⟨x.toArray⟩] w fun e w' => e = .returned (.bool (decide (x ∈ ws))) ∧ w' = w := by
  have c := hide' (indexS v ws x w hv hl)
  obtain ⟨ao, ca, b, o, rfl, _⟩ := holds_partsC hv
  generalize decide (x ∈ ws) = d at c ⊢
  clear hv
  go_enter Tryz.func130, Tryz.ntmps130
  go_wp2_with fail
  refine c.out.mono ?_
  rintro e w' ⟨i, rfl, hd, h1, h2, ew⟩
  rw [ew]
  go_wp2_with fail
  go_ret
  exact ⟨by rw [← hd.out]; rfl, rfl⟩
end Go.Proofs.YtibjcofbhldenaaGreatDoor
namespace Go.Proofs.YtibjcofbhldenaaGreatDoor
open Go.RowKit
def Tab (w : World) : Prop := Lib.TabIs Tryz.prog w "internal/strconv.uint64pow10" .u64 Lib.pow10Tab
theorem tab_below {w w' : World} (h : Tab w) (b : Below w.heap.size w w') : Tab w' := Lib.tabBelow_of_tabIs h w' b
theorem tab_of {W : World} {l : List (String × DataW Unit)} (h : laidMet Tryz.prog l W) (h4 : ("internal/strconv.uint64pow10", Lib.tabData .u64 Lib.pow10Tab) ∈ l) : Tab W :=
  var_ints h h4 (g := 0) (t := 282) (e := 253) (c := 20) (by kernel_rfl) (by kernel_rfl) Tryz.underlying282 Tryz.underlying253 (by kernel_rfl) (by kernel_rfl)
theorem itoaTab (p : Int) (h0 : -9223372036854775808 ≤ p) (h1 : p ≤ 9223372036854775807) (w : World) (T : Tab w) :
    Calls Tryz.prog 154 #[.int .i64 p] w fun e w' => e = .returned (.string ⟨(Lib.itoa p).toArray⟩) ∧ Below w.heap.size w w' := by
  refine (Any.strconv_Itoa Tryz.laysM171 p h0 h1 w T).mono ?_
  rintro e w' ⟨rfl, k, os, rfl⟩
  exact ⟨rfl, Lib.below_grow _ w (Nat.le_refl _) k os⟩
end Go.Proofs.YtibjcofbhldenaaGreatDoor
namespace Go.Proofs.YtibjcofbhldenaaGreatDoor
open Go.RowKit
set_option maxHeartbeats 1000000 in
theorem sameTexts (va vb : Value) (xs ys : List (List UInt8)) (w : World) (ha : Holds w va xs) (hb : Holds w vb ys) (la : xs.length ≤ 1000000000000000) (lb : ys.length ≤ 1000000000000000) :
    Calls Tryz.prog 29 #[va, vb] w fun e w' => e = .returned (.bool (decide (xs = ys))) ∧ ∃ n, w' = w.drewN n := by
  obtain ⟨ao, ca, rfl, hca⟩ := ha
  obtain ⟨bo, cb, rfl, hcb⟩ := hb
  by_cases hl : xs.length = ys.length
  · by_cases hz : xs.length = 0
    · have e1 : xs = [] := List.eq_nil_of_length_eq_zero hz
      have e2 : ys = [] := List.eq_nil_of_length_eq_zero (by omega)
      subst e1 e2
      clear hca hcb hl hz la lb
      go_enter Tryz.func29, Tryz.ntmps29
      go_wp2
      go_rounds 1
      go_ret
      exact ⟨rfl, 0, rfl⟩
    · obtain ⟨b1, o1, rfl, hlt1, c1⟩ := hca (fun e => hz (by rw [e]; rfl))
      obtain ⟨b2, o2, rfl, hlt2, c2⟩ := hcb (fun e => hz (by rw [hl, e]; rfl))
      have C1 : Hid _ := c1
      have C2 : Hid _ := c2
      obtain ⟨n, hn⟩ : ∃ n, n = xs.length := ⟨_, rfl⟩
      have N1 : Hid (xs.length = n) := hn.symm
      have N2 : Hid (ys.length = n) := by unfold Hid; omega
      have ln : n ≤ 1000000000000000 := by omega
      rw [N1.out, N2.out]
      clear hca hcb c1 c2 hl hz la lb hn
      go_enter Tryz.func29, Tryz.ntmps29
      go_wp2
      go_loopw [5] (fun i wr => ∃ k : Nat, k ≤ n ∧ i = .int .i64 k ∧ Hid (xs.take k = ys.take k) ∧ ∃ m, Hid (wr = w.drewN m)) (fun i _ => n - (intOf i).toNat)
      case atStart => exact ⟨0, by omega, rfl, rfl, 0, rfl⟩
      case round =>
        obtain ⟨k, hk, rfl, hE, m, hw⟩ := hrel
        have hw' := hw.out
        subst hw'
        by_cases hlt : k < n
        · have x1 := C1.out k (by rw [N1.out]; exact hlt)
          have x2 := C2.out k (by rw [N2.out]; exact hlt)
          unfold S at x1 x2
          have G1 : Hid (k < xs.length) := by unfold Hid; rw [N1.out]; exact hlt
          have G2 : Hid (k < ys.length) := by unfold Hid; rw [N2.out]; exact hlt
          by_cases he : xs[k]'G1.out = ys[k]'G2.out
          · have E : Hid (xs.take (k + 1) = ys.take (k + 1)) := by
              unfold Hid; rw [List.take_succ_eq_append_getElem G1.out, List.take_succ_eq_append_getElem G2.out, hE.out, he]
            rw [he] at x1
            generalize (ys[k]'G2.out).toArray = y at x1 x2
            clear he
            go_wp2
            go_quiet (fail)
            go_wp2
            go_roundw
            case rel => exact ⟨k + 1, by omega, by go_num, E, _, rfl⟩
            case measure => simp [intOf]; omega
          · have F : Hid (decide (xs = ys) = false) := by
              unfold Hid; rw [decide_eq_false_iff_not]; intro e; subst e; exact he rfl
            have hne : ((⟨(xs[k]'G1.out).toArray⟩ : ByteArray).toList == (⟨(ys[k]'G2.out).toArray⟩ : ByteArray).toList) = false := by
              rw [Lib.toList_data, Lib.toList_data]; simpa using he
            generalize (xs[k]'G1.out).toArray = x at x1 hne
            generalize (ys[k]'G2.out).toArray = y at x2 hne
            clear he
            go_wp2
            go_quiet (fail)
            go_wp2
            go_ret
            rw [F.out]
            exact ⟨rfl, _, World.drewN_drewN _ _ _⟩
        · have F : Hid (decide (xs = ys) = true) := by
            unfold Hid; rw [decide_eq_true_iff]
            have := hE.out
            rwa [List.take_of_length_le (by rw [N1.out]; omega), List.take_of_length_le (by rw [N2.out]; omega)] at this
          go_wp2
          go_ret
          rw [F.out]
          exact ⟨rfl, m, rfl⟩
  · have F : Hid (decide (xs = ys) = false) := by
      unfold Hid; rw [decide_eq_false_iff_not]; intro e; subst e; exact hl rfl
    have hl' : ((xs.length : Int) != (ys.length : Int)) = true := by simp; omega
    clear hca hcb hl
    generalize xs.length = n1 at la hl' ⊢
    generalize ys.length = n2 at lb hl' ⊢
    go_enter Tryz.func29, Tryz.ntmps29
    go_wp2
    go_ret
    rw [F.out]
    exact ⟨rfl, 0, rfl⟩
end Go.Proofs.YtibjcofbhldenaaGreatDoor
namespace Go.Proofs.YtibjcofbhldenaaGreatDoor
open Go.RowKit
abbrev FilL := List (Nm × List UInt8)
def chainOk : List Nm → Bool
  | a :: b :: r => lessN a b && chainOk (b :: r)
  | _ => true
def filesOk (fs : FilL) : Bool := fs.all (fun f => goodN f.1) && chainOk (fs.map (fun f => f.1))
def numbered (fs : FilL) : NL := fs.zipIdx.map (fun p => (p.1.1, p.2))
def newS (fs : FilL) (room : Int) (fails : List Int) (power : Int) : Dk := ⟨numbered fs, numbered fs, [], fs.map (fun f => f.2), fs.map (fun f => f.2.length), room, fails, power, 0⟩
def newE (fs : FilL) (room : Int) : Int := if room < 0 ∨ 1073741824 < room then 131 else if filesOk fs = true then 0 else 95
theorem chain_pair : ∀ (l : List Nm), chainOk l = true → l.Pairwise (fun a b => lessN a b = true) := by
  intro l
  induction l with
  | nil => intro _; exact List.Pairwise.nil
  | cons a r ih =>
    intro h
    cases r with
    | nil => exact List.pairwise_singleton _ _
    | cons b t =>
      have h' : lessN a b = true ∧ chainOk (b :: t) = true := by simpa [chainOk] using h
      have ih' := ih h'.2
      refine List.pairwise_cons.2 ⟨fun x hx => ?_, ih'⟩
      rcases List.mem_cons.1 hx with rfl | hx
      · exact h'.1
      · exact less_trans _ _ _ h'.1 ((List.pairwise_cons.1 ih').1 x hx)
theorem pair_chain : ∀ (l : List Nm), l.Pairwise (fun a b => lessN a b = true) → chainOk l = true := by
  intro l
  induction l with
  | nil => intro _; rfl
  | cons a r ih =>
    intro h
    cases r with
    | nil => rfl
    | cons b t =>
      obtain ⟨h1, h2⟩ := List.pairwise_cons.1 h
      have : chainOk (a :: b :: t) = (lessN a b && chainOk (b :: t)) := rfl
      rw [this, h1 b (List.mem_cons_self ..), ih h2]
      rfl
theorem num_fst (fs : FilL) : (numbered fs).map (fun p => p.1) = fs.map (fun f => f.1) := by
  unfold numbered
  rw [List.map_map]
  have : ((fun p : Nm × Nat => p.1) ∘ fun p : (Nm × List UInt8) × Nat => (p.1.1, p.2)) = (fun f : Nm × List UInt8 => f.1) ∘ Prod.fst := rfl
  rw [this, ← List.map_map, List.zipIdx_map_fst]
theorem num_snd (fs : FilL) : (numbered fs).map (fun p => p.2) = List.range fs.length := by
  unfold numbered
  rw [List.map_map]
  have : ((fun p : Nm × Nat => p.2) ∘ fun p : (Nm × List UInt8) × Nat => (p.1.1, p.2)) = Prod.snd := rfl
  rw [this, List.zipIdx_map_snd, List.range_eq_range']
theorem num_len (fs : FilL) : (numbered fs).length = fs.length := by unfold numbered; simp
theorem num_get (fs : FilL) (i : Nat) (h : i < (numbered fs).length) : (numbered fs)[i] = ((fs[i]'(by rw [← num_len]; exact h)).1, i) := by
  simp only [numbered, List.getElem_map, List.getElem_zipIdx, Nat.zero_add]
theorem num_sorted {fs : FilL} (h : filesOk fs = true) : SortedN (numbered fs) := by
  unfold filesOk at h
  rw [Bool.and_eq_true] at h
  have := chain_pair _ h.2
  rw [← num_fst] at this
  exact List.pairwise_map.1 this
theorem wf_new {fs : FilL} (h : filesOk fs = true) (room : Int) (fails : List Int) (power : Int) : Wf (newS fs room fails power) ∧ Once (newS fs room fails power).now := by
  have hn : WfN (newS fs room fails power) (numbered fs) := by
    refine ⟨num_sorted h, fun p hp => ?_⟩
    obtain ⟨i, hi, rfl⟩ := List.getElem_of_mem hp
    rw [num_get]
    rw [num_len] at hi
    refine ⟨by show i < (fs.map _).length; rw [List.length_map]; exact hi, ?_⟩
    unfold filesOk at h
    rw [Bool.and_eq_true, List.all_eq_true] at h
    exact h.1 _ (List.getElem_mem _)
  refine ⟨⟨by simp [newS], fun i => ?_, hn, hn, fun l hl => by cases hl⟩, ?_⟩
  · show (fs.map (fun f => f.2.length)).getD i 0 ≤ ((fs.map (fun f => f.2)).getD i []).length
    simp only [List.getD, List.getElem?_map]
    cases fs[i]? <;> simp
  · unfold Once
    show ((numbered fs).map (fun p => p.2)).Nodup
    rw [num_snd]
    exact List.nodup_range
/-- each number has one name, behind a step, too -/
theorem once_del {l : NL} (h : Once l) (name : Nm) : Once (delN l name) := by
  unfold Once delN at *
  exact List.Nodup.sublist (List.filter_sublist.map _) h
theorem once_ins {l : NL} {name : Nm} {no : Nat} (h : Once l) (hn : ∀ p ∈ l, p.2 ≠ no) : Once (insN name no l) := by
  induction l with
  | nil => unfold Once insN; simp
  | cons q r ih =>
    unfold insN
    split
    · unfold Once at *
      rw [List.map_cons, List.nodup_cons]
      refine ⟨fun hm => ?_, h⟩
      obtain ⟨p, hp, e⟩ := List.mem_map.1 hm
      exact hn p hp e
    · have h2 : Once r := (List.nodup_cons.1 h).2
      have h1 : q.2 ∉ r.map (fun p => p.2) := (List.nodup_cons.1 h).1
      have ih' := ih h2 (fun p hp => hn p (List.mem_cons_of_mem _ hp))
      unfold Once at *
      rw [List.map_cons, List.nodup_cons]
      refine ⟨fun hm => ?_, ih'⟩
      obtain ⟨p, hp, e⟩ := List.mem_map.1 hm
      rcases mem_ins.1 hp with rfl | hp
      · exact hn q (List.mem_cons_self ..) e.symm
      · exact h1 (by rw [← e]; exact List.mem_map_of_mem hp)
theorem once_out {l : NL} (ho : Once l) {name : Nm} {k : Nat} (h : (name, k) ∈ l) : ∀ p ∈ delN l name, p.2 ≠ k := by
  induction l with
  | nil => cases h
  | cons q r ih =>
    intro p hp e
    obtain ⟨h1, h2⟩ := mem_del.1 hp
    have ho2 : Once r := (List.nodup_cons.1 ho).2
    have hn : q.2 ∉ r.map (fun p => p.2) := (List.nodup_cons.1 ho).1
    rcases List.mem_cons.1 h with hq | hq
    · rcases List.mem_cons.1 h1 with h1 | h1
      · rw [h1, ← hq] at h2; exact h2 rfl
      · rw [← hq] at hn
        exact hn (by show k ∈ _; rw [← e]; exact List.mem_map_of_mem h1)
    · rcases List.mem_cons.1 h1 with h1 | h1
      · rw [← h1, e] at hn
        exact hn (List.mem_map_of_mem (f := fun p : Nm × Nat => p.2) hq)
      · exact ih ho2 hq p (mem_del.2 ⟨h1, h2⟩) e
/-- each number has one name -/
theorem once_act {s : Dk} (h : Wf s) (ho : Once s.now) (o : DOp) (k : Nat) (hk : o.what = 1 ∨ o.what = 4 ∨ (o.name, k) ∈ s.now) : Once (s.act o k).1.now := by
  unfold Dk.act
  by_cases h1 : o.what = 1
  · rw [if_pos h1]
    exact once_ins (once_del ho _) (fun p hp => by have := (h.now.2 p (mem_del.1 hp).1).1; omega)
  · rw [if_neg h1]
    by_cases h2 : o.what = 2
    · rw [if_pos h2]; split <;> exact ho
    · rw [if_neg h2]
      by_cases h3 : o.what = 3
      · rw [if_pos h3]; exact ho
      · rw [if_neg h3]
        by_cases h4 : o.what = 4
        · rw [if_pos h4]; exact ho
        · rw [if_neg h4]
          have hm : (o.name, k) ∈ s.now := by
            rcases hk with hk | hk | hk
            · exact absurd hk h1
            · exact absurd hk h4
            · exact hk
          by_cases h5 : o.what = 5
          · rw [if_pos h5]
            split
            · exact ho
            · exact once_ins (once_del (once_del ho _) _) (fun p hp => once_out ho hm p (mem_del.1 hp).1)
          · rw [if_neg h5]; exact once_del ho _
theorem step_cases (s : Dk) (o : DOp) : (∃ n, (s.step o).1 = { s with n := n }) ∨ ∃ k, (s.step o) = { s with n := s.n + 1 }.act o k ∧ (o.what = 1 ∨ o.what = 4 ∨ (o.name, k) ∈ s.now) := by
  unfold Dk.step
  split
  · exact .inl ⟨s.n, rfl⟩
  · split
    · exact .inl ⟨_, rfl⟩
    · split
      · exact .inl ⟨_, rfl⟩
      · split
        · split
          · rename_i hw
            refine .inr ⟨0, rfl, ?_⟩
            rcases hw with hw | hw
            · exact .inl hw
            · exact .inr (.inl hw)
          · exact .inl ⟨_, rfl⟩
        · rename_i k e
          split
          · exact .inl ⟨_, rfl⟩
          · exact .inr ⟨k, rfl, .inr (.inr (at_some e))⟩
theorem once_step {s : Dk} (h : Wf s) (ho : Once s.now) (o : DOp) : Once (s.step o).1.now := by
  rcases step_cases s o with ⟨n, e⟩ | ⟨k, e, hk⟩
  · rw [e]; exact ho
  · rw [e]; exact once_act (s := { s with n := s.n + 1 }) (wf_count h (s.n + 1)) ho o k hk
/-- no more bytes are seen than before the step, or than there is room for -/
theorem used_step {s : Dk} (h : Wf s) (ho : Once s.now) (o : DOp) : (s.step o).1.used ≤ s.used ∨ (((s.step o).1.used : Nat) : Int) ≤ s.room := by
  rcases step_cases s o with ⟨n, e⟩ | ⟨k, e, hk⟩
  · rw [e]; exact .inl (Nat.le_refl _)
  · rw [e]
    refine used_act { s with n := s.n + 1 } o k ?_ ho (fun p hp => (h.now.2 p hp).1)
    rcases hk with hk | hk | hk
    · exact .inl hk
    · exact .inr (.inl hk)
    · exact .inr (.inr ⟨hk, (h.now.2 _ hk).1⟩)
end Go.Proofs.YtibjcofbhldenaaGreatDoor
namespace Go.Proofs.YtibjcofbhldenaaGreatDoor
open Go.RowKit
/-- what M tells, W tells -/
structure Sub (M W : World) : Prop where
  size : M.heap.size ≤ W.heap.size
  cell : ∀ a v, M.cell? a = some v → W.cell? a = some v
theorem Sub.refl (W : World) : Sub W W := ⟨Nat.le_refl _, fun _ _ h => h⟩
theorem Sub.trans {A B C : World} (h : Sub A B) (k : Sub B C) : Sub A C := ⟨Nat.le_trans h.size k.size, fun a v e => k.cell a v (h.cell a v e)⟩
theorem cell_lt {W : World} {a : Addr} {v : Value} (h : W.cell? a = some v) : a.block < W.heap.size := by
  rcases Nat.lt_or_ge a.block W.heap.size with h1 | h1
  · exact h1
  · unfold World.cell? at h
    rw [Array.getElem?_eq_none h1] at h
    cases h
open Classical in
/-- blocks that are as they were, but for those of S -/
structure Off (S : Nat → Prop) (W W' : World) : Prop where
  os : W'.os = W.os
  tape : W'.tape = W.tape
  output : W'.output = W.output
  size : W.heap.size ≤ W'.heap.size
  block : ∀ k, k < W.heap.size → ¬ S k → W'.heap[k]? = W.heap[k]?
theorem Off.refl (S : Nat → Prop) (W : World) : Off S W W := ⟨rfl, rfl, rfl, Nat.le_refl _, fun _ _ _ => rfl⟩
theorem off_of {S : Nat → Prop} {W W' : World} (h : Below W.heap.size W W') : Off S W W' := ⟨h.os, h.tape, h.output, h.size, fun k hk _ => h.block k hk⟩
theorem off_grown {S : Nat → Prop} {W W' : World} {row : Option Nat} (h : W.grownBy W' row) (hr : ∀ k, row = some k → S k) : Off S W W' :=
  ⟨h.os, h.tape, h.output, h.size, fun k hk hn => h.block k hk (fun e => hn (hr k e.symm))⟩
theorem off_poke {S : Nat → Prop} {W : World} (a : Addr) (h : S a.block) (u : Value) : Off S W (W.setCell a u) :=
  ⟨rfl, rfl, rfl, by simp [World.setCell], fun k _ hn => Below.heap_setCell _ _ _ _ (fun e => hn (by rw [e]; exact h))⟩
theorem off_alloc {S : Nat → Prop} {W : World} (o : Obj) : Off S W (W.alloc o) := off_of ((Below.refl _ _).alloc (Nat.le_refl _) _)
theorem Off.trans {S S' : Nat → Prop} {A B C : World} (h : Off S A B) (k : Off S' B C) (hS : ∀ i, S' i → S i ∨ A.heap.size ≤ i) : Off S A C :=
  ⟨k.os.trans h.os, k.tape.trans h.tape, k.output.trans h.output, Nat.le_trans h.size k.size, fun i hi hn => by
    rw [k.block i (Nat.lt_of_lt_of_le hi h.size) (fun e => by rcases hS i e with h1 | h1; exact hn h1; omega)]
    exact h.block i hi hn⟩
theorem Off.mono {S T : Nat → Prop} {A B : World} (h : Off S A B) (hS : ∀ i, S i → T i) : Off T A B := ⟨h.os, h.tape, h.output, h.size, fun k hk hn => h.block k hk (fun e => hn (hS k e))⟩
theorem Off.below {S : Nat → Prop} {W W' : World} (h : Off S W W') {C : Nat} (hC : C ≤ W.heap.size) (hS : ∀ k, S k → C ≤ k) : Below C W W' :=
  ⟨h.os, h.tape, h.output, h.size, fun k hk => h.block k (by omega) (fun e => by have := hS k e; omega)⟩
/-! who owns a block -/
inductive Role where
  | disk | fails | seen | safe | pend | cap
  | file (i : Nat)
  | row (i : Nat)
deriving DecidableEq
abbrev Ow := Nat → Option Role
def Ow.has (o : Ow) (k : Nat) : Prop := o k ≠ none
def Ow.set (o : Ow) (b : Nat) (r : Role) : Ow := fun k => if k = b then some r else o k
theorem set_same (o : Ow) (b : Nat) (r : Role) : o.set b r b = some r := by unfold Ow.set; rw [if_pos rfl]
theorem set_other (o : Ow) {b k : Nat} (r : Role) (h : k ≠ b) : o.set b r k = o k := by unfold Ow.set; rw [if_neg h]
theorem ow_ne {o : Ow} {a b : Nat} {r t : Role} (ha : o a = some r) (hb : o b = some t) (h : r ≠ t) : a ≠ b := fun e => h (by rw [e, hb] at ha; exact (Option.some.inj ha).symm)
theorem has_of {o : Ow} {k : Nat} {r : Role} (h : o k = some r) : o.has k := fun e => by rw [h] at e; cases e
/-- the blocks of the roles R are as they were -/
structure Same (o : Ow) (R : Role → Prop) (W W' : World) : Prop where
  size : W.heap.size ≤ W'.heap.size
  block : ∀ k r, o k = some r → R r → W'.heap[k]? = W.heap[k]?
theorem same_off {o : Ow} {R : Role → Prop} {S : Nat → Prop} {W W' : World} (h : Off S W W') (hlt : ∀ k, o.has k → k < W.heap.size) (hS : ∀ k r, S k → o k = some r → ¬ R r) : Same o R W W' :=
  ⟨h.size, fun k r e hr => h.block k (hlt k (has_of e)) (fun hs => hS k r hs e hr)⟩
theorem same_below {o : Ow} {R : Role → Prop} {W W' : World} (h : Below W.heap.size W W') (hlt : ∀ k, o.has k → k < W.heap.size) : Same o R W W' := ⟨h.size, fun k _ e _ => h.block k (hlt k (has_of e))⟩
theorem same_grown {o : Ow} {W W' : World} {b : Nat} {r0 : Role} (h : W.grownBy W' (some b)) (hlt : ∀ k, o.has k → k < W.heap.size) (hb : o b = some r0) : Same o (fun r => r ≠ r0) W W' :=
  ⟨h.size, fun k r e hr => h.block k (hlt k (has_of e)) (fun e2 => by cases e2; rw [hb] at e; exact hr (Option.some.inj e).symm)⟩
theorem same_poke {o : Ow} {W : World} {b j : Nat} {r0 : Role} (hb : o b = some r0) (u : Value) : Same o (fun r => r ≠ r0) W (W.setCell ⟨b, j, none⟩ u) :=
  ⟨by simp [World.setCell], fun k r e hr => Below.heap_setCell _ _ _ _ (fun e2 => by subst e2; rw [hb] at e; exact hr (Option.some.inj e).symm)⟩
theorem Same.mono {o : Ow} {R R' : Role → Prop} {W W' : World} (h : Same o R W W') (hR : ∀ r, R' r → R r) : Same o R' W W' := ⟨h.size, fun k r e hr => h.block k r e (hR r hr)⟩
theorem Same.trans {o : Ow} {R : Role → Prop} {A B C : World} (h : Same o R A B) (k : Same o R B C) : Same o R A C := ⟨Nat.le_trans h.size k.size, fun i r e hr => (k.block i r e hr).trans (h.block i r e hr)⟩
theorem blk_same {o : Ow} {R : Role → Prop} {W W' : World} {b : Nat} {r : Role} {vs : List Value} (h : Blk b W vs) (hs : Same o R W W') (hb : o b = some r) (hr : R r) : Blk b W' vs :=
  ⟨fun j hj => ⟨by rw [World.cell?_of_block (w := W) (a := ⟨b, j, none⟩) (hs.block b r hb hr)]; exact (h.1 j hj).1, by rw [World.frozen?_of_block (w := W) (a := ⟨b, j, none⟩) (hs.block b r hb hr)]; exact (h.1 j hj).2⟩, Nat.lt_of_lt_of_le h.2 hs.size⟩
theorem map_same {H : Type} {o : Ow} {R : Role → Prop} {W W' : World} {b n : Nat} {r : Role} {P : Program} {k : TypeId} {E : Value → Option (DataW H × List MemPlace)} {D : DataW H} (h : W.ownsMap P k E b n D) (hs : Same o R W W') (hb : o b = some r) (hr : R r) : W'.ownsMap P k E b n D := by
  obtain ⟨es, clock, hh, F, hn, hD⟩ := h
  exact ⟨es, clock, by rw [hs.block b r hb hr]; exact hh, F, hn, hD⟩
theorem row_same {o : Ow} {R : Role → Prop} {W W' : World} {base k n : Nat} {r : Role} {t : TypeId} {v : Value} {cs : List Value} (h : W.ownsRow base t k v n cs) (hs : Same o R W W') (hb : ∀ b, v.ownBlock = some b → o b = some r) (hr : R r) : W'.ownsRow base t k v n cs := by
  obtain ⟨hl, h1 | ⟨x, cap, cur, hv, hx, hh, hrr⟩⟩ := h
  · exact ⟨hl, .inl h1⟩
  · refine ⟨hl, .inr ⟨x, cap, cur, hv, hx, ?_, hrr⟩⟩
    rw [hs.block x r (hb x (by rw [hv]; rfl)) hr]
    exact hh
end Go.Proofs.YtibjcofbhldenaaGreatDoor
namespace Go.Proofs.YtibjcofbhldenaaGreatDoor
open Go.RowKit
/-! the document's walk over names -/
end Go.Proofs.YtibjcofbhldenaaGreatDoor
namespace Go.Proofs.YtibjcofbhldenaaGreatDoor
open Go.RowKit
/-- a disk that has power for ever and no faults -/
def Fl (s : Dk) : Prop := s.power < 0 ∧ s.fails = []
theorem fl_down {s : Dk} (h : Fl s) : s.down = false := by
  unfold Dk.down
  rw [decide_eq_false]
  have := h.1
  omega
theorem fl_fault {s : Dk} (h : Fl s) : s.fault = false := by
  unfold Dk.fault
  rw [h.2]
  simp
/-- what a name holds -/
def vw (s : Dk) (nm : Nm) : Option (List UInt8) := (atN s.now nm).map (fun k => s.data.getD k [])
structure Ok3 (s : Dk) : Prop where
  fl : Fl s
  wf : Wf s
  once : Once s.now
theorem at_putS {l : NL} (h : SortedN l) (n : Nm) (k : Nat) (x : Nm) : atN (putN l n k) x = if x = n then some k else atN l x := by
  by_cases e : x = n
  · rw [if_pos e, e]
    exact at_mem (sorted_put h _ _) (mem_put.2 (.inl rfl))
  · rw [if_neg e]
    cases ha : atN l x with
    | none =>
      cases hb : atN (putN l n k) x with
      | none => rfl
      | some j =>
        rcases mem_put.1 (at_some hb) with h1 | ⟨h1, _⟩
        · simp only [Prod.mk.injEq] at h1; exact absurd h1.1 e
        · exact absurd rfl (at_none ha _ h1)
    | some j => exact at_mem (sorted_put h _ _) (mem_put.2 (.inr ⟨at_some ha, e⟩))
theorem at_delS {l : NL} (h : SortedN l) (n x : Nm) : atN (delN l n) x = if x = n then none else atN l x := by
  by_cases e : x = n
  · rw [if_pos e]
    cases hb : atN (delN l n) x with
    | none => rfl
    | some j => exact absurd e (mem_del.1 (at_some hb)).2
  · rw [if_neg e]
    cases ha : atN l x with
    | none =>
      cases hb : atN (delN l n) x with
      | none => rfl
      | some j => exact absurd rfl (at_none ha _ (mem_del.1 (at_some hb)).1)
    | some j => exact at_mem (sorted_del h _) (mem_del.2 ⟨at_some ha, e⟩)
theorem once_at {l : NL} (ho : Once l) {x y : Nm} {k : Nat} (hx : (x, k) ∈ l) (hy : (y, k) ∈ l) : x = y := by
  unfold Once at ho
  obtain ⟨i, hi, ei⟩ := List.getElem_of_mem hx
  obtain ⟨j, hj, ej⟩ := List.getElem_of_mem hy
  have h1 : (l.map (fun p => p.2))[i]'(by simpa using hi) = k := by simp [ei]
  have h2 : (l.map (fun p => p.2))[j]'(by simpa using hj) = k := by simp [ej]
  have h3 := (List.getElem_inj (h₀ := by simpa using hi) (h₁ := by simpa using hj) ho).1 (h1.trans h2.symm)
  subst h3
  rw [ei] at ej
  simpa using ej
theorem vw_none {s : Dk} {nm : Nm} : vw s nm = none ↔ atN s.now nm = none := by unfold vw; simp
theorem vw_some {s : Dk} {nm : Nm} {b : List UInt8} (h : vw s nm = some b) : ∃ k, atN s.now nm = some k ∧ s.data.getD k [] = b := by
  unfold vw at h
  obtain ⟨k, h1, h2⟩ := Option.map_eq_some_iff.1 h
  exact ⟨k, h1, h2⟩
/-- a step of a disk without faults, a good name -/
theorem fl_step {s : Dk} (h : Fl s) (o : DOp) (hg : ¬ ((o.what ≠ 4 ∧ goodN o.name = false) ∨ (o.what = 5 ∧ goodN o.to = false))) : s.step o = match atN s.now o.name with
    | none => if o.what = 1 ∨ o.what = 4 then { s with n := s.n + 1 }.act o 0 else ({ s with n := s.n + 1 }, 90)
    | some k => if o.what = 1 then ({ s with n := s.n + 1 }, 91) else { s with n := s.n + 1 }.act o k := by
  unfold Dk.step
  rw [if_neg (by rw [fl_down h]; decide), if_neg (by rw [fl_fault h]; decide), if_neg hg]
  all_goals (cases atN s.now o.name <;> rfl)
theorem act_fl {s : Dk} (h : Fl s) (o : DOp) (k : Nat) : Fl (s.act o k).1 := by
  unfold Dk.act
  split
  · exact h
  · split
    · split
      · exact h
      · exact h
    · split
      · exact h
      · split
        · exact h
        · split
          · split
            · exact h
            · exact h
          · exact h
theorem step_fl {s : Dk} (h : Fl s) (o : DOp) : Fl (s.step o).1 := by
  have hc : ∀ n, Fl { s with n := n } := fun n => h
  unfold Dk.step
  split
  · exact h
  · split
    · exact hc _
    · split
      · exact hc _
      · split
        · split
          · exact act_fl (hc _) _ _
          · exact hc _
        · split
          · exact hc _
          · exact act_fl (hc _) _ _
theorem ok3_step {s : Dk} (h : Ok3 s) (o : DOp) : Ok3 (s.step o).1 := ⟨step_fl h.fl o, wf_step h.wf o, once_step h.wf h.once o⟩
theorem st_create {s : Dk} (h : Ok3 s) {nm : Nm} (hg : goodN nm = true) (hv : vw s nm = none) : (s.step ⟨1, nm, [], []⟩).2 = 0 ∧ ∀ x, vw (s.step ⟨1, nm, [], []⟩).1 x = if x = nm then some [] else vw s x := by
  have e := fl_step h.fl ⟨1, nm, [], []⟩ (by simp [hg])
  rw [vw_none.1 hv] at e
  simp only [true_or, if_true] at e
  rw [e]
  refine ⟨rfl, fun x => ?_⟩
  show (atN (putN s.now nm s.data.length) x).map (fun k => (s.data ++ [[]]).getD k []) = _
  rw [at_putS h.wf.now.1]
  by_cases hx : x = nm
  · rw [if_pos hx, if_pos hx]
    simp
  · rw [if_neg hx, if_neg hx]
    unfold vw
    cases ha : atN s.now x with
    | none => rfl
    | some k =>
      have := (h.wf.now.2 _ (at_some ha)).1
      simp only [Option.map_some, Option.some.injEq]
      simp [List.getD, List.getElem?_append_left this]
theorem st_append {s : Dk} (h : Ok3 s) {nm : Nm} (hg : goodN nm = true) {b : List UInt8} (hv : vw s nm = some b) (d : List UInt8) :
    ((s.step ⟨2, nm, [], d⟩).2 = 92 ∧ ∀ x, vw (s.step ⟨2, nm, [], d⟩).1 x = vw s x) ∨ ((s.step ⟨2, nm, [], d⟩).2 = 0 ∧ ∀ x, vw (s.step ⟨2, nm, [], d⟩).1 x = if x = nm then some (b ++ d) else vw s x) := by
  obtain ⟨k, hk, hb⟩ := vw_some hv
  have e := fl_step h.fl ⟨2, nm, [], d⟩ (by simp [hg])
  simp only at e
  rw [hk] at e
  simp only at e
  rw [if_neg (by decide)] at e
  have hkl := (h.wf.now.2 _ (at_some hk)).1
  rw [e]
  unfold Dk.act
  simp only
  rw [if_neg (by decide), if_pos trivial]
  split
  · exact .inl ⟨rfl, fun x => rfl⟩
  · refine .inr ⟨rfl, fun x => ?_⟩
    show (atN s.now x).map (fun j => (s.data.set k (s.data.getD k [] ++ d)).getD j []) = _
    by_cases hx : x = nm
    · rw [if_pos hx, hx, hk, hb]
      simp only [Option.map_some, Option.some.injEq]
      simp [List.getD, hkl]
    · rw [if_neg hx]
      unfold vw
      cases ha : atN s.now x with
      | none => rfl
      | some j =>
        have hne : k ≠ j := fun e2 => by
          subst e2
          exact hx (once_at h.once (at_some ha) (at_some hk))
        simp only [Option.map_some, Option.some.injEq]
        simp [List.getD, List.getElem?_set_ne hne]
theorem st_sync {s : Dk} (h : Ok3 s) {nm : Nm} (hg : goodN nm = true) {b : List UInt8} (hv : vw s nm = some b) : (s.step ⟨3, nm, [], []⟩).2 = 0 ∧ ∀ x, vw (s.step ⟨3, nm, [], []⟩).1 x = vw s x := by
  obtain ⟨k, hk, hb⟩ := vw_some hv
  have e := fl_step h.fl ⟨3, nm, [], []⟩ (by simp [hg])
  simp only at e
  rw [hk] at e
  simp only at e
  rw [if_neg (by decide)] at e
  rw [e]
  exact ⟨rfl, fun x => rfl⟩
theorem st_names {s : Dk} (h : Ok3 s) : (s.step ⟨4, [], [], []⟩).2 = 0 ∧ ∀ x, vw (s.step ⟨4, [], [], []⟩).1 x = vw s x := by
  have e := fl_step h.fl ⟨4, [], [], []⟩ (by simp)
  rw [e]
  cases atN s.now [] with
  | none => exact ⟨rfl, fun x => rfl⟩
  | some k => exact ⟨rfl, fun x => rfl⟩
theorem st_remove {s : Dk} (h : Ok3 s) {nm : Nm} (hg : goodN nm = true) {b : List UInt8} (hv : vw s nm = some b) : (s.step ⟨6, nm, [], []⟩).2 = 0 ∧ ∀ x, vw (s.step ⟨6, nm, [], []⟩).1 x = if x = nm then none else vw s x := by
  obtain ⟨k, hk, hb⟩ := vw_some hv
  have e := fl_step h.fl ⟨6, nm, [], []⟩ (by simp [hg])
  simp only at e
  rw [hk] at e
  simp only at e
  rw [if_neg (by decide)] at e
  rw [e]
  refine ⟨rfl, fun x => ?_⟩
  show (atN (delN s.now nm) x).map (fun j => s.data.getD j []) = _
  rw [at_delS h.wf.now.1]
  by_cases hx : x = nm
  · rw [if_pos hx, if_pos hx]; rfl
  · rw [if_neg hx, if_neg hx]; rfl
theorem st_rename {s : Dk} (h : Ok3 s) {nm to : Nm} (hg : goodN nm = true) (hg2 : goodN to = true) (hne : nm ≠ to) {b : List UInt8} (hv : vw s nm = some b) : (s.step ⟨5, nm, to, []⟩).2 = 0 ∧ ∀ x, vw (s.step ⟨5, nm, to, []⟩).1 x = if x = to then some b else if x = nm then none else vw s x := by
  obtain ⟨k, hk, hb⟩ := vw_some hv
  have e := fl_step h.fl ⟨5, nm, to, []⟩ (by simp [hg, hg2])
  simp only at e
  rw [hk] at e
  simp only at e
  rw [if_neg (by decide)] at e
  rw [e]
  unfold Dk.act
  simp only
  rw [if_neg (by decide), if_neg (by decide), if_neg (by decide), if_neg (by decide), if_pos trivial, if_neg hne]
  refine ⟨rfl, fun x => ?_⟩
  show (atN (putN (delN s.now nm) to k) x).map (fun j => s.data.getD j []) = _
  rw [at_putS (sorted_del h.wf.now.1 _), at_delS h.wf.now.1]
  by_cases hx : x = to
  · rw [if_pos hx, if_pos hx, Option.map_some, hb]
  · rw [if_neg hx, if_neg hx]
    by_cases hy : x = nm
    · rw [if_pos hy, if_pos hy]; rfl
    · rw [if_neg hy, if_neg hy]; rfl
/-- two sorted lists of the same names -/
theorem names_eq {l m : NL} (hl : SortedN l) (hm : SortedN m) (h : ∀ x, (atN l x).isSome = (atN m x).isSome) : l.map (fun p => p.1) = m.map (fun p => p.1) := by
  have hs : ∀ {l : NL}, SortedN l → (l.map (fun p => p.1)).Pairwise (fun a b => lessN a b = true) := fun hl => List.pairwise_map.2 hl
  have hmem : ∀ {l : NL}, SortedN l → ∀ x, x ∈ l.map (fun p => p.1) ↔ (atN l x).isSome = true := fun {l} hl x => by
    constructor
    · intro hx
      obtain ⟨p, hp, rfl⟩ := List.mem_map.1 hx
      rw [at_mem hl (name := p.1) (k := p.2) hp]; rfl
    · intro hx
      cases ha : atN l x with
      | none => rw [ha] at hx; cases hx
      | some k => exact List.mem_map.2 ⟨(x, k), at_some ha, rfl⟩
  have key : ∀ (a b : List Nm), a.Pairwise (fun x y => lessN x y = true) → b.Pairwise (fun x y => lessN x y = true) → (∀ x, x ∈ a ↔ x ∈ b) → a = b := by
    intro a
    induction a with
    | nil =>
      intro b _ _ he
      cases b with
      | nil => rfl
      | cons y r => exact absurd ((he y).2 List.mem_cons_self) (by simp)
    | cons x a ih =>
      intro b ha hb he
      cases b with
      | nil => exact absurd ((he x).1 List.mem_cons_self) (by simp)
      | cons y b =>
        obtain ⟨h1, h2⟩ := List.pairwise_cons.1 ha
        obtain ⟨h3, h4⟩ := List.pairwise_cons.1 hb
        have hxy : x = y := by
          rcases List.mem_cons.1 ((he x).1 List.mem_cons_self) with e | e
          · exact e
          · rcases List.mem_cons.1 ((he y).2 List.mem_cons_self) with e2 | e2
            · exact e2.symm
            · have := less_trans _ _ _ (h1 y e2) (h3 x e)
              rw [less_irrefl] at this; cases this
        subst hxy
        congr 1
        refine ih b h2 h4 (fun z => ?_)
        constructor
        · intro hz
          rcases List.mem_cons.1 ((he z).1 (List.mem_cons_of_mem _ hz)) with e | e
          · have := h1 z hz; rw [e, less_irrefl] at this; cases this
          · exact e
        · intro hz
          rcases List.mem_cons.1 ((he z).2 (List.mem_cons_of_mem _ hz)) with e | e
          · have := h3 z hz; rw [e, less_irrefl] at this; cases this
          · exact e
  exact key _ _ (hs hl) (hs hm) (fun x => by rw [hmem hl, hmem hm, h])
theorem list_eq {s s' : Dk} (h : Ok3 s) (h' : Ok3 s') (hv : ∀ x, vw s' x = vw s x) : s'.list = s.list := by
  unfold Dk.list
  rw [if_neg (by rw [fl_down h'.fl]; decide), if_neg (by rw [fl_down h.fl]; decide)]
  refine names_eq h'.wf.now.1 h.wf.now.1 (fun x => ?_)
  have := congrArg Option.isSome (hv x)
  unfold vw at this
  simpa using this
end Go.Proofs.YtibjcofbhldenaaGreatDoor
namespace Go.Proofs.YtibjcofbhldenaaGreatDoor
open Go.RowKit
abbrev DU := DataW Unit
/-- an element of a table: a pointer to a block's beginning, or nil -/
def pel (v : Value) : Option (DU × List MemPlace) := match v with
  | .pointer none => some (.nil, [])
  | .pointer (some ⟨b, 0, none⟩) => some (.lit (.int .i64 (b : Int)), [])
  | _ => none
theorem pel_at (b : Nat) : pel (.pointer (some ⟨b, 0, none⟩)) = some (.lit (.int .i64 (b : Int)), []) := rfl
theorem pel_nil : pel (.pointer none) = some (.nil, []) := rfl
theorem pel_inv {v : Value} {z : DU × List MemPlace} (h : pel v = some z) : (v = .pointer none ∧ z = (.nil, [])) ∨ ∃ b : Nat, v = .pointer (some ⟨b, 0, none⟩) ∧ z = (.lit (.int .i64 (b : Int)), []) := by
  unfold pel at h
  split at h
  · simp only [Option.some.injEq] at h; exact .inl ⟨rfl, h.symm⟩
  · simp only [Option.some.injEq] at h; exact .inr ⟨_, rfl, h.symm⟩
  · cases h
theorem pel_lit {v : Value} {b : Nat} {ps : List MemPlace} (h : pel v = some (.lit (.int .i64 (b : Int)), ps)) : v = .pointer (some ⟨b, 0, none⟩) := by
  rcases pel_inv h with ⟨_, e⟩ | ⟨c, hv, e⟩
  · simp at e
  · simp only [Prod.mk.injEq, DataW.lit.injEq, Lit.int.injEq, true_and] at e
    have : b = c := by omega
    rw [this]; exact hv
/-- what a table of names reads as; fb: the block of each file -/
def dOf (fb : Nat → Nat) (l : NL) : DU := .map (l.map (fun p => (Lit.string p.1, .lit (.int .i64 (fb p.2 : Int)))))
theorem before_less : ∀ a b : Nm, bytesBefore a b = lessN a b := by
  intro a
  induction a with
  | nil => intro b; cases b <;> rfl
  | cons x u ih =>
    intro b
    cases b with
    | nil => rfl
    | cons y v => show (decide (x < y) || (x == y && bytesBefore u v)) = _; rw [ih, less_cons]
theorem same_str (a b : Nm) : (Lit.string a).sameKey (Lit.string b) = decide (a = b) := by
  show (a == b) = _
  by_cases h : a = b
  · simp [h]
  · simp [h]
theorem dOf_filter (fb : Nat → Nat) (l : NL) (n : Nm) : (l.map (fun p => (Lit.string p.1, (DataW.lit (.int .i64 (fb p.2 : Int)) : DU)))).filter (fun p => !p.1.sameKey (.string n)) = (delN l n).map (fun p => (Lit.string p.1, (DataW.lit (.int .i64 (fb p.2 : Int)) : DU))) := by
  unfold delN
  rw [List.filter_map]
  congr 1
  apply List.filter_congr
  intro p _
  show (!(Lit.string p.1).sameKey (.string n)) = _
  rw [same_str]
  by_cases h : p.1 = n <;> simp [h]
theorem dOf_del (fb : Nat → Nat) (l : NL) (n : Nm) : (dOf fb l).del (.string n) = dOf fb (delN l n) := by
  unfold dOf DataW.del
  simp only
  rw [dOf_filter]
theorem dOf_ins (fb : Nat → Nat) (n : Nm) (k : Nat) : ∀ l : NL, DataW.insert (Lit.string n, (DataW.lit (.int .i64 (fb k : Int)) : DU)) (l.map (fun p => (Lit.string p.1, (DataW.lit (.int .i64 (fb p.2 : Int)) : DU)))) = (insN n k l).map (fun p => (Lit.string p.1, (DataW.lit (.int .i64 (fb p.2 : Int)) : DU))) := by
  intro l
  induction l with
  | nil => rfl
  | cons q r ih =>
    rw [List.map_cons, DataW.insert, insN]
    have e : (Lit.string n).before (Lit.string q.1) = lessN n q.1 := before_less n q.1
    simp only [e]
    split
    · rfl
    · rw [ih]; rfl
theorem dOf_put (fb : Nat → Nat) (l : NL) (n : Nm) (k : Nat) : (dOf fb l).put (.string n) (.lit (.int .i64 (fb k : Int))) = dOf fb (putN l n k) := by
  unfold dOf DataW.put putN
  simp only
  rw [dOf_filter, dOf_ins]
theorem dOf_find (fb : Nat → Nat) (n : Nm) (l : NL) : (l.map (fun p => (Lit.string p.1, (DataW.lit (.int .i64 (fb p.2 : Int)) : DU)))).find? (fun p => p.1.sameKey (.string n)) = (l.find? (fun p => decide (p.1 = n))).map (fun p => (Lit.string p.1, (DataW.lit (.int .i64 (fb p.2 : Int)) : DU))) := by
  rw [List.find?_map]
  congr 1
  congr 1
  funext p
  exact same_str p.1 n
theorem dOf_some {fb : Nat → Nat} {l : NL} {n : Nm} {k : Nat} (h : atN l n = some k) (z : DU) : (dOf fb l).atKey (.string n) z = .lit (.int .i64 (fb k : Int)) := by
  unfold atN at h
  unfold dOf DataW.atKey
  simp only
  rw [dOf_find]
  obtain ⟨p, hp, rfl⟩ := Option.map_eq_some_iff.1 h
  rw [hp]
  rfl
theorem dOf_none {fb : Nat → Nat} {l : NL} {n : Nm} (h : atN l n = none) (z : DU) : (dOf fb l).atKey (.string n) z = z := by
  unfold atN at h
  unfold dOf DataW.atKey
  simp only
  rw [dOf_find, Option.map_eq_none_iff.1 h]
  rfl
theorem dOf_has (fb : Nat → Nat) (l : NL) (n : Nm) : Maps.has (dOf fb l) (.string n) = (atN l n).isSome := by
  unfold dOf atN
  rw [Maps.has_eq, List.any_map]
  have e : ((fun p : Lit × DU => p.1.sameKey (.string n)) ∘ fun p : Nm × Nat => (Lit.string p.1, (DataW.lit (.int .i64 (fb p.2 : Int)) : DU))) = fun p : Nm × Nat => decide (p.1 = n) := by funext p; exact same_str p.1 n
  rw [e]
  induction l with
  | nil => rfl
  | cons q r ih =>
    rw [List.any_cons, List.find?_cons]
    by_cases h : q.1 = n
    · simp [h]
    · simp only [h, decide_false, Bool.false_or]; exact ih
theorem dOf_size (fb : Nat → Nat) (l : NL) : Maps.size (dOf fb l) = l.length := by
  unfold dOf
  rw [Maps.size_eq, List.length_map]
theorem dOf_keys (fb : Nat → Nat) (l : NL) : strKeys (dOf fb l) = l.map (fun p => p.1) := by
  unfold dOf strKeys
  simp [strOf]
theorem dOf_congr {fb fc : Nat → Nat} {l : NL} (h : ∀ p ∈ l, fb p.2 = fc p.2) : dOf fb l = dOf fc l := by
  unfold dOf
  congr 1
  exact List.map_congr_left (fun p hp => by rw [h p hp])
/-- how many entries a map has is told by what it reads as -/
theorem own_tight {P : Program} {k : TypeId} {R : Value → Option (DU × List MemPlace)} {w : World} {b n : Nat} {D : DU} (h : w.ownsMap P k R b n D) : w.ownsMap P k R b (Maps.size D) D := by
  obtain ⟨es, clock, hb, F, hs, hD⟩ := h
  refine ⟨es, clock, hb, F, ?_, hD⟩
  rw [hD, Maps.size_eq, length_sorted]
  simp
theorem delN_len (l : NL) (n : Nm) : (delN l n).length ≤ l.length := List.length_filter_le _ _
theorem insN_len (n : Nm) (k : Nat) : ∀ l : NL, (insN n k l).length = l.length + 1 := by
  intro l
  induction l with
  | nil => rfl
  | cons q r ih => unfold insN; split <;> simp [ih]
theorem putN_len (l : NL) (n : Nm) (k : Nat) : (putN l n k).length ≤ l.length + 1 := by
  unfold putN
  rw [insN_len]
  have := delN_len l n
  omega
/-! changes of names -/
inductive Chg where
  | put (n : Nm) (k : Nat)
  | del (n : Nm)
  | mv (a b : Nm) (k : Nat)
def Chg.app : Chg → NL → NL
  | .put n k, l => putN l n k
  | .del n, l => delN l n
  | .mv a b k, l => putN (delN l a) b k
def appAll (cs : List Chg) (l : NL) : NL := cs.foldl (fun l c => c.app l) l
def scanC : NL → List Chg → List NL
  | _, [] => []
  | l, c :: r => c.app l :: scanC (c.app l) r
theorem appN_len (c : Chg) (l : NL) : (c.app l).length ≤ l.length + 1 := by
  cases c with
  | put n k => exact putN_len l n k
  | del n => have := delN_len l n; show (delN l n).length ≤ _; omega
  | mv a b k =>
    have h1 := putN_len (delN l a) b k
    have h2 := delN_len l a
    show (putN (delN l a) b k).length ≤ _
    omega
theorem appAll_len : ∀ (cs : List Chg) (l : NL), (appAll cs l).length ≤ l.length + cs.length := by
  intro cs
  induction cs with
  | nil => intro l; exact Nat.le_refl _
  | cons c r ih =>
    intro l
    have h1 := ih (c.app l)
    have h2 := appN_len c l
    show (appAll r (c.app l)).length ≤ _
    rw [List.length_cons]
    omega
theorem appAll_snoc (cs : List Chg) (c : Chg) (l : NL) : appAll (cs ++ [c]) l = c.app (appAll cs l) := by unfold appAll; rw [List.foldl_append]; rfl
theorem scan_len : ∀ (cs : List Chg) (l : NL), (scanC l cs).length = cs.length := by
  intro cs
  induction cs with
  | nil => intro l; rfl
  | cons c r ih => intro l; show (scanC (c.app l) r).length + 1 = _; rw [ih]; rfl
theorem scan_snoc : ∀ (cs : List Chg) (c : Chg) (l : NL), scanC l (cs ++ [c]) = scanC l cs ++ [c.app (appAll cs l)] := by
  intro cs
  induction cs with
  | nil => intro c l; rfl
  | cons d r ih =>
    intro c l
    show d.app l :: scanC (d.app l) (r ++ [c]) = _
    rw [ih]
    rfl
theorem scan_get : ∀ (cs : List Chg) (l : NL) (k : Nat), k < cs.length → (scanC l cs).getD k [] = appAll (cs.take (k + 1)) l := by
  intro cs
  induction cs with
  | nil => intro l k h; cases h
  | cons c r ih =>
    intro l k h
    cases k with
    | zero => rfl
    | succ j =>
      show (scanC (c.app l) r).getD j [] = _
      rw [ih _ _ (by simpa using h)]
      rfl
/-- the names' lists of a disk are its changes', one behind the other -/
def Sc (s : Dk) (cs : List Chg) : Prop := s.pend = scanC s.safe cs ∧ s.now = appAll cs s.safe
theorem sc_named {s : Dk} {cs : List Chg} (h : Sc s cs) (c : Chg) : Sc (s.named (c.app s.now)) (cs ++ [c]) := by
  refine ⟨?_, ?_⟩
  · show s.pend ++ [c.app s.now] = scanC s.safe (cs ++ [c])
    rw [scan_snoc, h.1, h.2]
  · show c.app s.now = appAll (cs ++ [c]) s.safe
    rw [appAll_snoc, h.2]
theorem sorted_keys {l : NL} (hs : SortedN l) {ss : List Nm} (hp : ss.Perm (l.map (fun p => p.1))) : ss.mergeSort (fun x y => decide (x ≤ y)) = l.map (fun p => p.1) := by
  have h1 := mergeSort_of_perm hp
  have tr : ∀ a b c : List UInt8, leB a b = true → leB b c = true → leB a c = true := fun a b c h1 h2 => by simp only [leB, decide_eq_true_eq] at *; exact List.le_trans h1 h2
  have to : ∀ a b : List UInt8, (leB a b || leB b a) = true := fun a b => by simp only [leB, Bool.or_eq_true, decide_eq_true_eq]; exact List.le_total a b
  refine h1.trans ?_
  refine List.Perm.eq_of_pairwise (le := fun a b => leB a b = true) (fun a b _ _ h1 h2 => ?_) (List.pairwise_mergeSort tr to _) ?_ (List.mergeSort_perm _ leB)
  · simp only [leB, decide_eq_true_eq] at h1 h2
    exact List.le_antisymm h1 h2
  · refine List.pairwise_map.2 (hs.imp (fun {p q} h => ?_))
    simp only [leB, decide_eq_true_eq]
    exact List.le_of_lt (less_lt _ _ h)
end Go.Proofs.YtibjcofbhldenaaGreatDoor
namespace Go.Proofs.YtibjcofbhldenaaGreatDoor
open Go.RowKit Go.Maps Go.WideMaps
theorem kStr : Keyed Tryz.prog 9 := string_keyed Tryz.underlying9
theorem kInt : Keyed Tryz.prog 3 := int_keyed Tryz.underlying3
theorem zeroP (w : World) : (zeroValue 142).run Tryz.prog w = .ok (.pointer none) w := by kernel_rfl
theorem zeroU (w : World) : (zeroValue 141).run Tryz.prog w = .ok (.agg #[]) w := by kernel_rfl
/-- a map that holds just these numbers -/
def FailsAt (W : World) (m : Nat) (fs : List Int) : Prop := ∃ n D, W.ownsMap Tryz.prog 3 (unitElem (H := Unit)) m n D ∧ ∀ i : Int, Maps.has D (.int .i64 i) = decide (i ∈ fs)
/-- a table of names -/
def Tbl (W : World) (m : Nat) (fb : Nat → Nat) (l : NL) : Prop := W.ownsMap Tryz.prog 9 pel m l.length (dOf fb l)
/-- a change of names as a function value -/
def ChgV (o : Ow) (fb : Nat → Nat) (W : World) (v : Value) : Chg → Prop
  | .put n k => n.length ≤ 64 ∧ ∃ bf bn, v = .func (.func 183) #[] #[.pointer (some ⟨bf, 0, none⟩), .pointer (some ⟨bn, 0, none⟩)] ∧ W.cell? ⟨bf, 0, none⟩ = some (.pointer (some ⟨fb k, 0, none⟩)) ∧ W.cell? ⟨bn, 0, none⟩ = some (S n) ∧ o bf = some .cap ∧ o bn = some .cap
  | .del n => n.length ≤ 64 ∧ ∃ bn, v = .func (.func 102) #[] #[.pointer (some ⟨bn, 0, none⟩)] ∧ W.cell? ⟨bn, 0, none⟩ = some (S n) ∧ o bn = some .cap
  | .mv a b k => a.length ≤ 64 ∧ b.length ≤ 64 ∧ ∃ ba bf bb, v = .func (.func 222) #[] #[.pointer (some ⟨ba, 0, none⟩), .pointer (some ⟨bf, 0, none⟩), .pointer (some ⟨bb, 0, none⟩)] ∧ W.cell? ⟨ba, 0, none⟩ = some (S a) ∧ W.cell? ⟨bf, 0, none⟩ = some (.pointer (some ⟨fb k, 0, none⟩)) ∧ W.cell? ⟨bb, 0, none⟩ = some (S b) ∧ o ba = some .cap ∧ o bf = some .cap ∧ o bb = some .cap
/-- a file's block: its number, its bytes (a row of its own), how many are safe -/
def FileAt (o : Ow) (W : World) (b i : Nat) (bs : List UInt8) (sf : Nat) : Prop :=
  ∃ rv, Blk b W [.int .i64 (i : Int), rv, .int .i64 (sf : Int)] ∧ W.ownsRow 0 5 1 rv bs.length (bs.map B) ∧ o b = some (.file i) ∧ ∀ rb, rv.ownBlock = some rb → o rb = some (.row i)
/-- the pending changes -/
def PendAt (o : Ow) (fb : Nat → Nat) (W : World) (pv : Value) (cs : List Chg) : Prop :=
  ∃ vs : List Value, W.ownsRow 0 150 1 pv cs.length vs ∧ (∀ i (h : i < cs.length), ∃ v, vs[i]? = some v ∧ ChgV o fb W v cs[i]) ∧ ∀ rb, pv.ownBlock = some rb → o rb = some .pend
structure DkV (o : Ow) (g m0 m1 m2 : Nat) (pv : Value) (fb : Nat → Nat) (s : Dk) (cs : List Chg) (W : World) : Prop where
  blk : Blk g W [.int .i64 s.room, .int .i64 s.power, .map (some m0), .int .i64 (s.n : Int), .int .i64 (s.data.length : Int), .map (some m1), .map (some m2), pv]
  fails : FailsAt W m0 s.fails
  seen : Tbl W m1 fb s.now
  safe : Tbl W m2 fb s.safe
  pend : PendAt o fb W pv cs
  files : ∀ i, i < s.data.length → FileAt o W (fb i) i (s.data.getD i []) (s.firm.getD i 0)
  og : o g = some .disk
  o0 : o m0 = some .fails
  o1 : o m1 = some .seen
  o2 : o m2 = some .safe
  lt : ∀ k, o.has k → k < W.heap.size
  wf : Wf s
  once : Once s.now
  sc : Sc s cs
  rm : 0 ≤ s.room ∧ s.room ≤ 1073741824
/-- a disk at block g that owns the blocks of o -/
def Dsk (o : Ow) (g : Nat) (s : Dk) (W : World) : Prop := ∃ m0 m1 m2 pv fb cs, DkV o g m0 m1 m2 pv fb s cs W
theorem tbl_same {o : Ow} {R : Role → Prop} {W W' : World} {m : Nat} {r : Role} {fb : Nat → Nat} {l : NL} (h : Tbl W m fb l) (hs : Same o R W W') (hb : o m = some r) (hr : R r) : Tbl W' m fb l := map_same h hs hb hr
theorem fails_same {o : Ow} {R : Role → Prop} {W W' : World} {m : Nat} {fs : List Int} (h : FailsAt W m fs) (hs : Same o R W W') (hb : o m = some .fails) (hr : R .fails) : FailsAt W' m fs := by
  obtain ⟨n, D, h1, h2⟩ := h
  exact ⟨n, D, map_same h1 hs hb hr, h2⟩
theorem cell_same {o : Ow} {R : Role → Prop} {W W' : World} {b j : Nat} {r : Role} {v : Value} (h : W.cell? ⟨b, j, none⟩ = some v) (hs : Same o R W W') (hb : o b = some r) (hr : R r) : W'.cell? ⟨b, j, none⟩ = some v := by
  rw [World.cell?_of_block (w := W) (a := ⟨b, j, none⟩) (hs.block b r hb hr)]; exact h
theorem chg_same {o : Ow} {R : Role → Prop} {W W' : World} {fb : Nat → Nat} {v : Value} {c : Chg} (h : ChgV o fb W v c) (hs : Same o R W W') (hr : R .cap) : ChgV o fb W' v c := by
  cases c with
  | put n k =>
    obtain ⟨hl, bf, bn, e, h1, h2, o1, o2⟩ := h
    exact ⟨hl, bf, bn, e, cell_same h1 hs o1 hr, cell_same h2 hs o2 hr, o1, o2⟩
  | del n =>
    obtain ⟨hl, bn, e, h2, o2⟩ := h
    exact ⟨hl, bn, e, cell_same h2 hs o2 hr, o2⟩
  | mv a b k =>
    obtain ⟨l1, l2, ba, bf, bb, e, h1, h2, h3, o1, o2, o3⟩ := h
    exact ⟨l1, l2, ba, bf, bb, e, cell_same h1 hs o1 hr, cell_same h2 hs o2 hr, cell_same h3 hs o3 hr, o1, o2, o3⟩
theorem file_same {o : Ow} {R : Role → Prop} {W W' : World} {b i : Nat} {bs : List UInt8} {sf : Nat} (h : FileAt o W b i bs sf) (hs : Same o R W W') (h1 : R (.file i)) (h2 : R (.row i)) : FileAt o W' b i bs sf := by
  obtain ⟨rv, hb, hr, ho, hw⟩ := h
  exact ⟨rv, blk_same hb hs ho h1, row_same hr hs hw h2, ho, hw⟩
theorem pend_same {o : Ow} {R : Role → Prop} {W W' : World} {fb : Nat → Nat} {pv : Value} {cs : List Chg} (h : PendAt o fb W pv cs) (hs : Same o R W W') (h1 : R .pend) (h2 : R .cap) : PendAt o fb W' pv cs := by
  obtain ⟨vs, hr, hc, hw⟩ := h
  exact ⟨vs, row_same hr hs hw h1, fun i hi => by obtain ⟨v, e, hv⟩ := hc i hi; exact ⟨v, e, chg_same hv hs h2⟩, hw⟩
/-- more blocks owned, none otherwise than before -/
def Ow.le (o o' : Ow) : Prop := ∀ k r, o k = some r → o' k = some r
theorem le_set {o : Ow} {b : Nat} (r : Role) (h : o b = none ∨ o b = some r) : o.le (o.set b r) := by
  intro k t e
  by_cases hk : k = b
  · subst hk
    rcases h with h | h
    · rw [h] at e; cases e
    · rw [set_same, ← h, e]
  · rw [set_other _ _ hk]; exact e
theorem chg_le {o o' : Ow} {W : World} {fb : Nat → Nat} {v : Value} {c : Chg} (h : ChgV o fb W v c) (hl : o.le o') : ChgV o' fb W v c := by
  cases c with
  | put n k =>
    obtain ⟨l, bf, bn, e, h1, h2, o1, o2⟩ := h
    exact ⟨l, bf, bn, e, h1, h2, hl _ _ o1, hl _ _ o2⟩
  | del n =>
    obtain ⟨l, bn, e, h2, o2⟩ := h
    exact ⟨l, bn, e, h2, hl _ _ o2⟩
  | mv a b k =>
    obtain ⟨l1, l2, ba, bf, bb, e, h1, h2, h3, o1, o2, o3⟩ := h
    exact ⟨l1, l2, ba, bf, bb, e, h1, h2, h3, hl _ _ o1, hl _ _ o2, hl _ _ o3⟩
theorem file_le {o o' : Ow} {W : World} {b i : Nat} {bs : List UInt8} {sf : Nat} (h : FileAt o W b i bs sf) (hl : o.le o') : FileAt o' W b i bs sf := by
  obtain ⟨rv, hb, hr, ho, hw⟩ := h
  exact ⟨rv, hb, hr, hl _ _ ho, fun rb e => hl _ _ (hw rb e)⟩
theorem pend_le {o o' : Ow} {W : World} {fb : Nat → Nat} {pv : Value} {cs : List Chg} (h : PendAt o fb W pv cs) (hl : o.le o') : PendAt o' fb W pv cs := by
  obtain ⟨vs, hr, hc, hw⟩ := h
  exact ⟨vs, hr, fun i hi => by obtain ⟨v, e, hv⟩ := hc i hi; exact ⟨v, e, chg_le hv hl⟩, fun rb e => hl _ _ (hw rb e)⟩
/-- another owner's work leaves a disk as it was -/
theorem dkV_same {o : Ow} {g m0 m1 m2 : Nat} {pv : Value} {fb : Nat → Nat} {s : Dk} {cs : List Chg} {W W' : World} (h : DkV o g m0 m1 m2 pv fb s cs W) (hs : Same o (fun _ => True) W W') : DkV o g m0 m1 m2 pv fb s cs W' where
  blk := blk_same h.blk hs h.og trivial
  fails := fails_same h.fails hs h.o0 trivial
  seen := tbl_same h.seen hs h.o1 trivial
  safe := tbl_same h.safe hs h.o2 trivial
  pend := pend_same h.pend hs trivial trivial
  files := fun i hi => file_same (h.files i hi) hs trivial trivial
  og := h.og
  o0 := h.o0
  o1 := h.o1
  o2 := h.o2
  lt := fun k hk => Nat.lt_of_lt_of_le (h.lt k hk) hs.size
  wf := h.wf
  once := h.once
  sc := h.sc
  rm := h.rm
theorem dsk_below {o : Ow} {g : Nat} {s : Dk} {W W' : World} (h : Dsk o g s W) (hb : Below W.heap.size W W') : Dsk o g s W' := by
  obtain ⟨m0, m1, m2, pv, fb, cs, v⟩ := h
  exact ⟨m0, m1, m2, pv, fb, cs, dkV_same v (same_below hb v.lt)⟩
theorem dsk_off {o : Ow} {g : Nat} {s : Dk} {W W' : World} {S : Nat → Prop} (h : Dsk o g s W) (hb : Off S W W') (hS : ∀ k, S k → o k = none) : Dsk o g s W' := by
  obtain ⟨m0, m1, m2, pv, fb, cs, v⟩ := h
  exact ⟨m0, m1, m2, pv, fb, cs, dkV_same v (same_off hb v.lt (fun k r hk e => by rw [hS k hk] at e; cases e))⟩
theorem dsk_lt {o : Ow} {g : Nat} {s : Dk} {W : World} (h : Dsk o g s W) : ∀ k, o.has k → k < W.heap.size := by
  obtain ⟨m0, m1, m2, pv, fb, cs, v⟩ := h
  exact v.lt
/-- what a disk's own work does: its blocks alone are written, new ones may be made -/
structure Grow (o : Ow) (W : World) (o' : Ow) (W' : World) : Prop where
  off : Off o.has W W'
  le : o.le o'
  new : ∀ k, o'.has k → o.has k ∨ W.heap.size ≤ k
theorem Grow.refl (o : Ow) (W : World) : Grow o W o W := ⟨Off.refl _ _, fun _ _ e => e, fun _ h => .inl h⟩
theorem grow_below {o : Ow} {W W' : World} (h : Below W.heap.size W W') : Grow o W o W' := ⟨off_of h, fun _ _ e => e, fun _ h => .inl h⟩
theorem Grow.trans {o o' o'' : Ow} {A B C : World} (h : Grow o A o' B) (k : Grow o' B o'' C) : Grow o A o'' C :=
  ⟨h.off.trans k.off h.new, fun i r e => k.le i r (h.le i r e), fun i hi => by
    rcases k.new i hi with h1 | h1
    · exact h.new i h1
    · exact .inr (Nat.le_trans h.off.size h1)⟩
/-- eight cells of a block -/
theorem cells_eight {b : Nat} {W : World} {v0 v1 v2 v3 v4 v5 v6 v7 : Value} (h : Blk b W [v0, v1, v2, v3, v4, v5, v6, v7]) : (W.cell? ⟨b, 0, none⟩ = some v0 ∧ W.cell? ⟨b, 1, none⟩ = some v1 ∧ W.cell? ⟨b, 2, none⟩ = some v2 ∧ W.cell? ⟨b, 3, none⟩ = some v3 ∧ W.cell? ⟨b, 4, none⟩ = some v4 ∧ W.cell? ⟨b, 5, none⟩ = some v5 ∧ W.cell? ⟨b, 6, none⟩ = some v6 ∧ W.cell? ⟨b, 7, none⟩ = some v7) ∧ (W.frozen? ⟨b, 3, none⟩ = false ∧ W.frozen? ⟨b, 4, none⟩ = false ∧ W.frozen? ⟨b, 7, none⟩ = false) :=
  ⟨⟨(h.1 0 (by simp)).1, (h.1 1 (by simp)).1, (h.1 2 (by simp)).1, (h.1 3 (by simp)).1, (h.1 4 (by simp)).1, (h.1 5 (by simp)).1, (h.1 6 (by simp)).1, (h.1 7 (by simp)).1⟩, ⟨(h.1 3 (by simp)).2, (h.1 4 (by simp)).2, (h.1 7 (by simp)).2⟩⟩
theorem cells_3 {b : Nat} {W : World} {v0 v1 v2 : Value} (h : Blk b W [v0, v1, v2]) : (W.cell? ⟨b, 0, none⟩ = some v0 ∧ W.cell? ⟨b, 1, none⟩ = some v1 ∧ W.cell? ⟨b, 2, none⟩ = some v2) ∧ (W.frozen? ⟨b, 0, none⟩ = false ∧ W.frozen? ⟨b, 1, none⟩ = false ∧ W.frozen? ⟨b, 2, none⟩ = false) :=
  ⟨⟨(h.1 0 (by simp)).1, (h.1 1 (by simp)).1, (h.1 2 (by simp)).1⟩, ⟨(h.1 0 (by simp)).2, (h.1 1 (by simp)).2, (h.1 2 (by simp)).2⟩⟩
theorem key_str {s : ByteArray} (hs : s.size ≤ 140737488351232) : keyOf Tryz.prog 9 (.string s) = some (.string s.data.toList) := keyOf_string_mk Tryz.underlying9 (by unfold maxLen; omega)
theorem look_some {W : World} {m : Nat} {fb : Nat → Nat} {l : NL} (h : Tbl W m fb l) {s : ByteArray} (hs : s.size ≤ 140737488351232) {k : Nat} (ha : atN l s.data.toList = some k) :
    (Instr.lookup 117 (.map (some m)) (.string s) true).run Tryz.prog W = .ok (.tuple #[.pointer (some ⟨fb k, 0, none⟩), .bool true]) W := by
  obtain ⟨v, ps, h1, h2⟩ := World.ownsMap.look_ok h kStr Tryz.underlying117 (zeroP W) pel_nil (key_str hs)
  rw [dOf_some ha] at h2
  rw [dOf_has, ha] at h1
  rw [h1, pel_lit h2]
  rfl
theorem look_none {W : World} {m : Nat} {fb : Nat → Nat} {l : NL} (h : Tbl W m fb l) {s : ByteArray} (hs : s.size ≤ 140737488351232) (ha : atN l s.data.toList = none) :
    (Instr.lookup 117 (.map (some m)) (.string s) true).run Tryz.prog W = .ok (.tuple #[.pointer none, .bool false]) W := by
  obtain ⟨v, ps, h1, h2⟩ := World.ownsMap.look_ok h kStr Tryz.underlying117 (zeroP W) pel_nil (key_str hs)
  rw [dOf_none ha] at h2
  rw [dOf_has, ha] at h1
  rcases pel_inv h2 with ⟨e, _⟩ | ⟨c, _, e⟩
  · rw [h1, e]; rfl
  · simp at e
theorem look_fails {W : World} {m : Nat} {fs : List Int} (h : FailsAt W m fs) {i : Int} (hi : -9223372036854775808 ≤ i ∧ i ≤ 9223372036854775807) :
    (Instr.lookup 115 (.map (some m)) (.int .i64 i) true).run Tryz.prog W = .ok (.tuple #[.agg #[], .bool (decide (i ∈ fs))]) W := by
  obtain ⟨n, D, h0, hh⟩ := h
  obtain ⟨v, ps, h1, h2⟩ := World.ownsMap.look_ok h0 kInt Tryz.underlying115 (zeroU W) unitElem_mk (keyOf_int_mk (a := i) Tryz.underlying3 (by unfold Lit.wf; simp only [Bool.and_eq_true, decide_eq_true_eq]; exact hi))
  obtain ⟨e, _⟩ := unitElem_inv h2
  rw [h1, e, hh]
end Go.Proofs.YtibjcofbhldenaaGreatDoor
namespace Go.Proofs.YtibjcofbhldenaaGreatDoor
open Go.RowKit Go.Maps Go.Sort Go.Shelf
theorem sortsK (m : Nat) : AnyZ.SortsIn Tryz.prog Tryz.ssorted_ren Fence.wide m :=
  ⟨fun blk off cap ss W hH hblk hsz => callsIn_wide.2 (AnyM.slices_Sort_string Tryz.ssort blk off cap ss W hH hblk hsz),
   fun p cap W => callsIn_wide.2 (AnyM.slices_Sort_string_none Tryz.ssort p cap W)⟩
theorem keysK (mb : Option Nat) (W : World) : Calls Tryz.prog 123 #[.map mb] W fun e w' => e = .returned (.func (.func 161) #[] #[.pointer (some ⟨W.heap.size, 0, none⟩)]) ∧ w' = W.alloc (.cells #[.map mb] 117) :=
  (callsIn_wide (n := 5)).1 (AnyZ.keys_in Tryz.mkeys Fence.wide 5 trivial rfl mb W)
set_option maxHeartbeats 1000000 in
theorem sortedK {H : Type} (b nn : Nat) (D0 : DataW H) (R : Value → Option (DataW H × List MemPlace)) (w : World) (hown : w.ownsMap Tryz.prog 9 R b nn D0) (hmax : Maps.size D0 ≤ maxLen) (hbytes : Maps.size D0 * 16 ≤ 140737488355328) :
    Calls Tryz.prog 122 #[.func (.func 161) #[] #[.pointer (some ⟨w.heap.size, 0, none⟩)]] (w.alloc (.cells #[.map (some b)] 117)) fun e w' => ∃ (v : Value) (ss : List (List UInt8)), e = .returned v ∧ ss.Perm (strKeys D0) ∧
      w'.ownsRow (w.alloc (.cells #[.map (some b)] 117)).heap.size 9 1 v ss.length ((ss.mergeSort (fun x y => decide (x ≤ y))).map encStr) ∧ (v = .slice none 0 0 ↔ ss = []) ∧ Below (w.alloc (.cells #[.map (some b)] 117)).heap.size (w.alloc (.cells #[.map (some b)] 117)) w' := by
  have hbl := hown.lt
  have hseq : SeqGives Fence.wide 2 Tryz.prog 161 #[.pointer (some ⟨w.heap.size, 0, none⟩)] encStr (fun ss => ss.Perm (strKeys D0)) (Maps.size D0) (w.alloc (.cells #[.map (some b)] 117)) :=
    AnyZ.keys_gives (ρ := Tryz.mkeys_ren) { Tryz.mkeys with } Fence.wide _ trivial rfl (by omega) w.heap.size b nn D0 _ (by simp) (by simp) (by
      obtain ⟨es, clock, hb, Ft, hs, hD⟩ := hown
      exact ⟨es, clock, (Below.heap_alloc _ _ b hbl).trans hb, Ft, hs, hD⟩)
  exact (callsIn_wide (n := 5)).1 (AnyZ.sorted_in Tryz.ssorted Fence.wide 5 trivial trivial trivial trivial rfl (by omega) (sortsK _) (enters_of Tryz.func160 (by kernel_rfl) rfl) 161 #[.pointer (some ⟨w.heap.size, 0, none⟩)] trivial (enters_of Tryz.func161 (by kernel_rfl) rfl) _ _ hmax hbytes _ hseq)
set_option maxHeartbeats 1000000 in
theorem risingC {W : World} {m : Nat} {fb : Nat → Nat} {l : NL} (h : Tbl W m fb l) (hs : SortedN l) (hl : l.length ≤ 1000000000) :
    Calls Tryz.prog 76 #[.map (some m)] W fun e w' => ∃ v, e = .returned v ∧ OwnS W v (l.map (fun p => p.1)) w' := by
  have C1 := hide' (keysK (some m) W)
  have C2 := hide' (sortedK m l.length (dOf fb l) pel W h (by rw [dOf_size]; unfold maxLen; omega) (by rw [dOf_size]; omega))
  clear h
  go_enter Tryz.func76, Tryz.ntmps76
  go_wp2_with (first
    | (go_at_call 123; refine C1.out.mono ?_; rintro e w' ⟨rfl, rfl⟩)
    | (go_at_call 122; refine C2.out.mono ?_; rintro e w' ⟨v, ss, rfl, h1, h2, h3, h4⟩; have H1 := hide' h1; have H2 := hide' h2; have H4 := hide' h4; clear h1 h2 h3 h4))
  go_ret
  have hp := H1.out
  rw [dOf_keys] at hp
  have e := sorted_keys hs hp
  have h2 := H2.out
  rw [e] at h2
  have hlen : ss.length = (l.map (fun p => p.1)).length := hp.length_eq
  rw [hlen] at h2
  refine ⟨v, rfl, row_base h2 (by simp), ?_⟩
  exact (below_alloc' W _).trans (H4.out.mono (by simp))
end Go.Proofs.YtibjcofbhldenaaGreatDoor
namespace Go.Proofs.YtibjcofbhldenaaGreatDoor
open Go.RowKit Go.Shelf
/-- steps one behind the other, up to the first error -/
def runT {σ : Type} : List (σ → σ × Int) → σ → σ × Int
  | [], s => (s, 0)
  | g :: r, s => if (g s).2 = 0 then runT r (g s).1 else g s
theorem runT_nil {σ : Type} (s : σ) : runT ([] : List (σ → σ × Int)) s = (s, 0) := rfl
theorem runT_ok {σ : Type} {g : σ → σ × Int} {r : List (σ → σ × Int)} {s : σ} (h : (g s).2 = 0) : runT (g :: r) s = runT r (g s).1 := by show (if (g s).2 = 0 then runT r (g s).1 else g s) = _; rw [if_pos h]
theorem runT_bad {σ : Type} {g : σ → σ × Int} {r : List (σ → σ × Int)} {s : σ} (h : (g s).2 ≠ 0) : runT (g :: r) s = g s := by show (if (g s).2 = 0 then runT r (g s).1 else g s) = _; rw [if_neg h]
/-- a function value that is a step: called in a world of I i it leads to one of I (i + 1) -/
def StepV {σ : Type} (I : Nat → σ → World → Prop) (i : Nat) (v : Value) (g : σ → σ × Int) : Prop :=
  ∃ (k : Nat) (fi ca : Array Value), v = .func (.func k) fi ca ∧ (∀ args w, (callFunc k args).run Tryz.prog w = .ok (.enter k args) w) ∧
    ∀ s w, I i s w → Calls Tryz.prog k (fi ++ ca) w fun e w' => e = .returned (.int .i64 (g s).2) ∧ I (i + 1) (g s).1 w'
set_option maxRecDepth 20000 in
set_option maxHeartbeats 1000000 in
theorem inTurnC {σ : Type} (I : Nat → σ → World → Prop) (b n : Nat) (fs : List Value) (gs : List (σ → σ × Int)) (hf : fs.length = n) (hg : gs.length = n) (hn : n ≤ 1000)
    (hst : ∀ i (h1 : i < fs.length) (h2 : i < gs.length), StepV I i fs[i] gs[i])
    (hc : ∀ i s w, I i s w → ∀ j (h : j < fs.length), w.cell? ⟨b, j, none⟩ = some fs[j]) (s0 : σ) (w : World) (h0 : I 0 s0 w) :
    Calls Tryz.prog 84 #[.slice (some ⟨b, 0, none⟩) n n] w fun e w' => e = .returned (.int .i64 (runT gs s0).2) ∧ ∃ i, i ≤ n ∧ I i (runT gs s0).1 w' := by
  have HS := hide' hst
  have HC := hide' hc
  have HF := hide' hf
  have HG := hide' hg
  clear hst hc hf hg
  go_enter Tryz.func84, Tryz.ntmps84
  go_wp2_with fail
  go_loopw [8] (fun i wr => ∃ (k : Nat) (s : σ), k ≤ n ∧ i = .int .i64 k ∧ Hid (I k s wr) ∧ Hid (runT gs s0 = runT (gs.drop k) s)) (fun i _ => n - (intOf i).toNat)
  case atStart => exact ⟨0, s0, by omega, rfl, h0, rfl⟩
  case round =>
    obtain ⟨k, s, hk, rfl, hI, hR⟩ := hrel
    by_cases hlt : k < n
    · have l1 : k < fs.length := by rw [HF.out]; exact hlt
      have l2 : k < gs.length := by rw [HG.out]; exact hlt
      obtain ⟨q, fi, ca, ev, eg, hcall⟩ := HS.out k l1 l2
      have c := HC.out k s wr hI.out k l1
      rw [ev] at c
      have R2 : Hid (gs.drop k = gs[k] :: gs.drop (k + 1)) := List.drop_eq_getElem_cons l2
      obtain ⟨G, hG⟩ : ∃ G, G = gs[k] := ⟨_, rfl⟩
      rw [← hG] at hcall R2
      have CC := hide' (hcall s wr hI.out)
      clear hcall ev hG l1 l2
      by_cases hz : (G s).2 = 0
      · have R3 : Hid (runT gs s0 = runT (gs.drop (k + 1)) (G s).1) := by unfold Hid; rw [hR.out, R2.out, runT_ok hz]
        have HZ := hide' hz
        clear hz
        go_wp2_with fail
        refine CC.out.mono ?_
        rintro e w1 ⟨rfl, h1⟩
        have H1 := hide' h1
        clear h1
        rw [HZ.out]
        go_wp2_with fail
        go_roundw
        case rel => exact ⟨k + 1, _, by omega, by go_num, H1, R3⟩
        case measure => simp [intOf]; omega
      · have R3 : Hid (runT gs s0 = G s) := by unfold Hid; rw [hR.out, R2.out, runT_bad hz]
        obtain ⟨y, hy⟩ : ∃ y, y = (G s).2 := ⟨_, rfl⟩
        have hy0 : decide (y = 0) = false := by rw [decide_eq_false_iff_not, hy]; exact hz
        have hy2 : ¬ y = 0 := by rw [hy]; exact hz
        have HY := hide' hy
        clear hz hy
        go_wp2_with fail
        refine CC.out.mono ?_
        rintro e w1 ⟨rfl, h1⟩
        have H1 := hide' h1
        clear h1
        rw [← HY.out]
        go_wp2_with fail
        refine bodyPost_ret (results_tmp rfl _ _ _) rfl ?_
        rw [R3.out]
        exact ⟨congrArg (fun z => Ending.returned (Value.int .i64 z)) HY.out, k + 1, by omega, H1.out⟩
    · obtain rfl : k = n := by omega
      have R3 : Hid (runT gs s0 = (s, 0)) := by unfold Hid; rw [hR.out, List.drop_eq_nil_of_le (by rw [HG.out]; omega)]; rfl
      go_wp2_with fail
      go_ret
      rw [R3.out]
      exact ⟨rfl, k, by omega, hI.out⟩
end Go.Proofs.YtibjcofbhldenaaGreatDoor
