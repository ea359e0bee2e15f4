/- What the library's table of powers holds, out of the row's own condition; Itoa, Origin and Show. -/
import Derived.Test.YtddbemleialpbaaDoorUaT
import Derived.Test.YtddbemleialpbaaDoorUrR
import Derived.Test.YtddbemleialpbaaDoorShelf
import Derived.Lib.LaidTab
import Derived.Lib.AppendIntMem
import Derived.MakeChecks
import Derived.Deep.RegionHeld3
namespace Go.Proofs.YtddbemleialpbaaDoor
open Go.RowKit
def Tab (w : World) : Prop := Lib.TabIs Tryd.prog w "internal/strconv.uint64pow10" .u64 Lib.pow10Tab
theorem tab_below {w w' : World} (h : Tab w) (b : Below w.heap.size w w') : Tab w' := Lib.tabBelow_of_tabIs h w' b
theorem laid_mem {P : Program} {w : World} {n : String} {d : DataW Unit} : ∀ {l : List (String × DataW Unit)} {ps : List MemPlace}, DataW.LaidVars P w l ps → (n, d) ∈ l →
    ∃ (ps' : List MemPlace), DataW.LaidVars P w [(n, d)] ps' := by
  intro l
  induction l with
  | nil => intro ps _ hm; cases hm
  | cons x r ih =>
    intro ps h hm
    obtain ⟨n0, d0⟩ := x
    obtain ⟨g, t, cs, fuel, p, q, e1, e2, e3, e4, hr, rfl⟩ := h
    rcases List.mem_cons.1 hm with hm | hm
    · cases hm
      exact ⟨_, g, t, cs, fuel, p, [], e1, e2, e3, e4, rfl, rfl⟩
    · exact ih hr hm
theorem var_ints {W : World} {l : List (String × DataW Unit)} (h : laidMet Tryd.prog l W) {n : String} {zs : List Int} {k : IntKind} (hm : (n, Lib.tabData k zs) ∈ l) {g : Nat} {t e : TypeId} {c : Nat}
    (hg : Tryd.prog.globalNamed n = some g) (hty : (Tryd.prog.globals[g]?).map (·.type) = some t) (ht : Tryd.prog.underlying t = some (.array c e)) (he : Tryd.prog.underlying e = some (.int k)) (hce : Tryd.prog.cellsOf e = 1) (hct : Tryd.prog.cellsOf t = c) :
    Lib.TabIs Tryd.prog W n k zs := by
  obtain ⟨ps, hl, _⟩ := h
  obtain ⟨ps', g', t', cs, fuel, p, q, hg', ht', hvar, hd, _, _⟩ := laid_mem hl hm
  obtain rfl := Option.some.inj (hg.symm.trans hg')
  obtain rfl := Option.some.inj (hty.symm.trans ht')
  unfold Lib.TabIs
  rw [hvar, ← Lib.cells_of_tab ht he hce hct hd]
theorem tab_of {W : World} {l : List (String × DataW Unit)} (h : laidMet Tryd.prog l W) (h4 : ("internal/strconv.uint64pow10", Lib.tabData .u64 Lib.pow10Tab) ∈ l) : Tab W :=
  var_ints h h4 (g := 0) (t := 37) (e := 30) (c := 20) (by kernel_rfl) (by kernel_rfl) Tryd.underlying37 Tryd.underlying30 (by kernel_rfl) (by kernel_rfl)
def itoaT (p : Int) : ByteArray := ⟨(Lib.itoa p).toArray⟩
def In64 (p : Int) : Prop := -9223372036854775808 ≤ p ∧ p ≤ 9223372036854775807
theorem itoa_size (p : Int) (h : In64 p) : (itoaT p).size ≤ 20 := by
  unfold itoaT Lib.itoa
  obtain ⟨h0, h1⟩ := h
  rw [mk_size]
  split
  · have := dec_len 18 p.natAbs (by omega)
    simp; omega
  · have := dec_len 18 p.toNat (by omega)
    omega
theorem itoaCode (p : Int) (h : In64 p) (w : World) (T : Tab w) :
    Calls Tryd.prog 9 #[.int .i64 p] w fun e w' => e = .returned (.string (itoaT p)) ∧ Below w.heap.size w w' := by
  refine (Any.strconv_Itoa Tryd.laysM171 p h.1 h.2 w T).mono ?_
  rintro e w' ⟨rfl, k, os, rfl⟩
  exact ⟨rfl, Lib.below_grow _ w (Nat.le_refl _) k os⟩
theorem lit3 (w : World) (a c : ByteArray) (p : Int) : (w.alloc (.cells #[.string a, .int .i64 p, .string c] 23)).cell? ⟨w.heap.size, 0, none⟩ = some (.string a) ∧ (w.alloc (.cells #[.string a, .int .i64 p, .string c] 23)).cell? ⟨w.heap.size, 1, none⟩ = some (.int .i64 p) ∧ (w.alloc (.cells #[.string a, .int .i64 p, .string c] 23)).cell? ⟨w.heap.size, 2, none⟩ = some (.string c) :=
  ⟨by simp, by simp, by simp⟩
set_option maxHeartbeats 2000000 in
theorem originCode (h q : ByteArray) (p : Int) (hp : In64 p) (hh : h.size ≤ 140737488351232) (w : World) (T : Tab w) :
    Calls Tryd.prog 6 #[.agg #[.string h, .int .i64 p, .string q]] w fun e w' => e = .returned (.string (h ++ ⟨#[58]⟩ ++ itoaT p)) ∧ Below w.heap.size w w' := by
  have zi := itoa_size p hp
  have cI := fun w T => itoaCode p hp w T
  generalize itoaT p = I at cI zi
  have cW : Hid (∀ (W : World) (g : Nat), g < W.heap.size → Tab W → W.cell? ⟨g, 0, none⟩ = some (.string h) ∧ W.cell? ⟨g, 1, none⟩ = some (.int .i64 p) ∧ W.cell? ⟨g, 2, none⟩ = some (.string q) → Calls Tryd.prog 9 #[.int .i64 p] W fun e w' => e = .returned (.string I) ∧ w'.cell? ⟨g, 0, none⟩ = some (.string h) ∧ w'.cell? ⟨g, 1, none⟩ = some (.int .i64 p) ∧ w'.cell? ⟨g, 2, none⟩ = some (.string q) ∧ Below W.heap.size W w') := by
    intro W g hgl hT hc
    refine (cI W hT).mono ?_
    rintro e w' ⟨rfl, b⟩
    obtain ⟨k0, k1, k2⟩ := cells_below hc hgl b
    exact ⟨rfl, k0, k1, k2, b⟩
  clear cI
  have a1 : ∀ W, (Op.stringOp .add h ⟨#[58]⟩).run Tryd.prog W = .ok (.string (h ++ ⟨#[58]⟩)) W := fun W => run_string_add_sum W _ _ (by have : (⟨#[58]⟩ : ByteArray).size = 1 := rfl; omega)
  have a2 : ∀ W, (Op.stringOp .add (h ++ ⟨#[58]⟩) I).run Tryd.prog W = .ok (.string (h ++ ⟨#[58]⟩ ++ I)) W := fun W => run_string_add_sum W _ _ (by rw [ByteArray.size_append]; have : (⟨#[58]⟩ : ByteArray).size = 1 := rfl; omega)
  have a3 : (h.size : Int) ≤ 140737488351232 := by omega
  have a4 : ((h ++ (⟨#[58]⟩ : ByteArray)).size : Int) ≤ 140737488351233 := by rw [ByteArray.size_append]; have : (⟨#[58]⟩ : ByteArray).size = 1 := rfl; omega
  go_enter Tryd.func6, Tryd.ntmps6
  go_wp2_with fail
  obtain ⟨W, eW⟩ : ∃ W, W = w.alloc (.cells #[.string h, .int .i64 p, .string q] 23) := ⟨_, rfl⟩
  rw [← eW]
  obtain ⟨k0, k1, k2⟩ : W.cell? ⟨w.heap.size, 0, none⟩ = some (.string h) ∧ W.cell? ⟨w.heap.size, 1, none⟩ = some (.int .i64 p) ∧ W.cell? ⟨w.heap.size, 2, none⟩ = some (.string q) := by rw [eW]; exact lit3 w h q p
  have LW : w.heap.size < W.heap.size := by rw [eW]; simp
  have BW : Hid (Below w.heap.size w W) := by unfold Hid; rw [eW]; exact alloc_below _ _
  have TW := hide (tab_below (tab_below T BW.out) ((Below.refl _ W).drew))
  clear eW T hp
  generalize hg : w.heap.size = g at k0 k1 k2 LW
  go_region_held3 (fun w' => w'.cell? ⟨g, 0, none⟩ = some (.string h) ∧ w'.cell? ⟨g, 1, none⟩ = some (.int .i64 p) ∧ w'.cell? ⟨g, 2, none⟩ = some (.string q)) (go_keep)
    (first | (go_at_call 9; refine (cW.out _ g (by simp; omega) TW.out ⟨by simp [*], by simp [*], by simp [*]⟩).mono ?_; rintro e' w3 ⟨rfl, k3, k4, k5, b3⟩))
  all_goals
    have B3 : Hid (Below w.heap.size w w3) := BW.out.trans (((Below.refl _ W).drew.trans b3).mono BW.out.size)
    clear b3 BW k0 k1 k2 k3 k4 k5 cW
    go_wp2_with fail
    go_ret
    rw [← hg]
    exact ⟨rfl, B3.out⟩
end Go.Proofs.YtddbemleialpbaaDoor
