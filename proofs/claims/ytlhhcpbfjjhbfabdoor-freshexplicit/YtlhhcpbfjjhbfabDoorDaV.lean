/- What the listed package variables hold, out of the row's own condition, and that it stays so while only new memory is made. -/
import Derived.Test.YtlhhcpbfjjhbfabDoorDaL
import Derived.Lib.LaidTab
import Derived.Lib.AppendIntMem
import Derived.Lib.ItoaNum
import Derived.MakeChecks
namespace Go.Proofs.YtlhhcpbfjjhbfabDoor
open Go.RowKit
def wtab : List (List UInt8) := [[84, 104, 117, 114, 115, 100, 97, 121], [70, 114, 105, 100, 97, 121], [83, 97, 116, 117, 114, 100, 97, 121], [83, 117, 110, 100, 97, 121], [77, 111, 110, 100, 97, 121], [84, 117, 101, 115, 100, 97, 121], [87, 101, 100, 110, 101, 115, 100, 97, 121]]
def motab : List (List UInt8) := [[74, 97, 110], [70, 101, 98], [77, 97, 114], [65, 112, 114], [77, 97, 121], [74, 117, 110], [74, 117, 108], [65, 117, 103], [83, 101, 112], [79, 99, 116], [78, 111, 118], [68, 101, 99]]
structure Vars (w : World) : Prop where
  week : ∀ i : Nat, i < 7 → w.cell? ⟨0, i, none⟩ = some (.string ⟨(wtab.getD i []).toArray⟩)
  mon : ∀ i : Nat, i < 12 → w.cell? ⟨1, i, none⟩ = some (.string ⟨(motab.getD i []).toArray⟩)
  len : LenVar w
/-- .. and strconv's table of powers, which Show meets -/
structure VarsT (w : World) : Prop extends Vars w where
  tab : Lib.TabIs Tryd.prog w "internal/strconv.uint64pow10" .u64 Lib.pow10Tab
theorem Vars.below {w w' : World} (h : Vars w) (b : Below w.heap.size w w') : Vars w' where
  week := fun i hi => by have h1 := h.week i hi; rw [b.cell (p := ⟨0, i, none⟩) (World.block_lt_of_cell? _ _ h1)]; exact h1
  mon := fun i hi => by have h1 := h.mon i hi; rw [b.cell (p := ⟨1, i, none⟩) (World.block_lt_of_cell? _ _ h1)]; exact h1
  len := h.len.below b
theorem VarsT.below {w w' : World} (h : VarsT w) (b : Below w.heap.size w w') : VarsT w' := ⟨h.toVars.below b, Lib.tabBelow_of_tabIs h.tab w' b⟩
def strData {H : Type} (zs : List (List UInt8)) : DataW H := .agg (zs.map fun z => .lit (.string z))
theorem cells_of_strs {H : Type} {enc : TypeId × Value → H} {P : Program} {w : World} {base : Nat} {sp : Nat → Bool} {held : Bool} {fuel : Nat} {t e : TypeId} {n : Nat} {cs : List Value} {zs : List (List UInt8)} {p : List MemPlace}
    (ht : P.underlying t = some (.array n e)) (he : P.underlying e = some .string) (hce : P.cellsOf e = 1) (hct : P.cellsOf t = n)
    (h : DataW.trod enc P w base sp held fuel t cs = some (strData zs, p)) : cs = zs.map fun z => Value.string ⟨z.toArray⟩ := by
  cases fuel with
  | zero => simp [DataW.trod] at h
  | succ fuel =>
    simp only [DataW.trod, ht, hce, hct, Nat.mul_one] at h
    split at h
    · rename_i hl
      obtain ⟨xs, hm, hx⟩ := Option.map_eq_some_iff.1 h
      have hxs : xs.map (·.1) = zs.map fun z => (DataW.lit (.string z) : DataW H) := by
        have := congrArg Prod.fst hx
        simpa [strData] using this
      have hxl : xs.length = n := by simpa using Lib.mapM_length hm
      have hzl : zs.length = n := by
        have := congrArg List.length hxs
        simp at this
        omega
      apply List.ext_getElem?
      intro i
      by_cases hi : i < n
      · obtain ⟨b, hb, hf⟩ := Lib.mapM_at hm i i (by simp [hi])
        obtain ⟨z, hc, rfl, _⟩ := DataW.trod_string he hf
        have h1 : cs[i]? = some (.string z) := by
          have := congrArg (·[0]?) hc
          simpa [List.getElem?_take, List.getElem?_drop] using this
        have h2 : (xs.map (·.1))[i]? = some (DataW.lit (.string z.data.toList) : DataW H) := by simp [hb]
        rw [hxs] at h2
        simp only [List.getElem?_map, Option.map_eq_some_iff, DataW.lit.injEq, Lit.string.injEq] at h2
        obtain ⟨z', hz', rfl⟩ := h2
        simp [h1, hz']
      · rw [List.getElem?_eq_none (by omega), List.getElem?_eq_none (by simp; omega)]
    · cases h
theorem laid_mem {P : Program} {w : World} {n : String} {d : DataW Unit} : ∀ {l : List (String × DataW Unit)} {ps : List MemPlace}, DataW.LaidVars P w l ps → (n, d) ∈ l →
    ∃ (ps' : List MemPlace), DataW.LaidVars P w [(n, d)] ps' := by
  intro l
  induction l with
  | nil => intro ps _ hm; cases hm
  | cons x r ih =>
    intro ps h hm
    obtain ⟨n0, d0⟩ := x
    obtain ⟨g, t, cs, fuel, p, q, e1, e2, e3, e4, hr, rfl⟩ := h
    rcases List.mem_cons.1 hm with hm | hm
    · cases hm
      exact ⟨_, g, t, cs, fuel, p, [], e1, e2, e3, e4, rfl, rfl⟩
    · exact ih hr hm
theorem var_ints {W : World} {l : List (String × DataW Unit)} (h : laidMet Tryd.prog l W) {n : String} {zs : List Int} {k : IntKind} (hm : (n, Lib.tabData k zs) ∈ l) {g : Nat} {t e : TypeId} {c : Nat}
    (hg : Tryd.prog.globalNamed n = some g) (hty : (Tryd.prog.globals[g]?).map (·.type) = some t) (ht : Tryd.prog.underlying t = some (.array c e)) (he : Tryd.prog.underlying e = some (.int k)) (hce : Tryd.prog.cellsOf e = 1) (hct : Tryd.prog.cellsOf t = c) :
    Lib.TabIs Tryd.prog W n k zs := by
  obtain ⟨ps, hl, _⟩ := h
  obtain ⟨ps', g', t', cs, fuel, p, q, hg', ht', hvar, hd, _, _⟩ := laid_mem hl hm
  obtain rfl := Option.some.inj (hg.symm.trans hg')
  obtain rfl := Option.some.inj (hty.symm.trans ht')
  unfold Lib.TabIs
  rw [hvar, ← Lib.cells_of_tab ht he hce hct hd]
theorem var_strs {W : World} {l : List (String × DataW Unit)} (h : laidMet Tryd.prog l W) {n : String} {zs : List (List UInt8)} (hm : (n, strData zs) ∈ l) {g : Nat} {t e : TypeId} {c : Nat}
    (hg : Tryd.prog.globalNamed n = some g) (hty : (Tryd.prog.globals[g]?).map (·.type) = some t) (ht : Tryd.prog.underlying t = some (.array c e)) (he : Tryd.prog.underlying e = some .string) (hce : Tryd.prog.cellsOf e = 1) (hct : Tryd.prog.cellsOf t = c) :
    ∀ i, i < zs.length → W.cell? ⟨g, i, none⟩ = some (.string ⟨(zs.getD i []).toArray⟩) := by
  obtain ⟨ps, hl, _⟩ := h
  obtain ⟨ps', g', t', cs, fuel, p, q, hg', ht', hvar, hd, _, _⟩ := laid_mem hl hm
  obtain rfl := Option.some.inj (hg.symm.trans hg')
  obtain rfl := Option.some.inj (hty.symm.trans ht')
  intro i hi
  have := World.var?_cell hg hvar i
  rw [this]
  have e := cells_of_strs ht he hce hct hd
  have e2 : cs = (zs.map fun z => Value.string ⟨z.toArray⟩).toArray := by rw [← e]
  rw [e2]
  simp [List.getD, hi]
theorem lenVar_of {W : World} {l : List (String × DataW Unit)} (h : laidMet Tryd.prog l W) (hm : ("conduit/date.monthLengths", Lib.tabData .i64 mtab) ∈ l) : LenVar W := by
  have t := var_ints h hm (g := 3) (t := 129) (e := 3) (c := 12) (by kernel_rfl) (by kernel_rfl) Tryd.underlying129 Tryd.underlying3 (by kernel_rfl) (by kernel_rfl)
  exact fun i hi => t.cell (by kernel_rfl) i hi
theorem vars_of {W : World} {l : List (String × DataW Unit)} (h : laidMet Tryd.prog l W) (h1 : ("conduit/date.weekdays", strData wtab) ∈ l) (h2 : ("conduit/date.months", strData motab) ∈ l) (h3 : ("conduit/date.monthLengths", Lib.tabData .i64 mtab) ∈ l) : Vars W where
  week := var_strs h h1 (g := 0) (t := 95) (e := 9) (c := 7) (by kernel_rfl) (by kernel_rfl) Tryd.underlying95 Tryd.underlying9 (by kernel_rfl) (by kernel_rfl)
  mon := var_strs h h2 (g := 1) (t := 116) (e := 9) (c := 12) (by kernel_rfl) (by kernel_rfl) Tryd.underlying116 Tryd.underlying9 (by kernel_rfl) (by kernel_rfl)
  len := lenVar_of h h3
end Go.Proofs.YtlhhcpbfjjhbfabDoor
