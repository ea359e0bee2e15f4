/- A list of bytes that came in: what the reading says of it. What a row lists of the library's variables, and what the start of the world gives, is what the road of Parse reads. A request and a response that came in: what the reading says of them. -/
import Derived.Test.YtenegcoapejbmaaGreatDoorBf
import Derived.Test.YtenegcoapejbmaaGreatDoorBa
import Derived.ChangeSlices
import Derived.Test.YtenegcoapejbmaaGreatDoorBc
import Derived.Lib.LaidU8T
import GoSem.PinnedTables
import Derived.MakeChecks
import Derived.Lib.SmallJoins
namespace Go.Proofs.YtenegcoapejbmaaGreatDoor
open Go.ChangeShapes Go.WideShapes Go.ChangeAt Go.RowKit
set_option maxRecDepth 100000 in
theorem open_bytes {H : Type} {enc : TypeId × Value → H} {W : World} {base : Nat} {v : Value} {d : DataW H} {p : List MemPlace} (hok : Value.okWide Tryz.prog W .any base 22 v) (h : DataW.Trod enc Tryz.prog W 0 (fun _ => true) true 22 v d p) :
    ∃ bs : List UInt8, HoldsB W v bs ∧ bs.length + 1 ≤ Rows.uptoBulk d ∧ ((∀ n ∈ d.weights Tryz.prog 22, n ≤ reachBytes) → bs.length ≤ reachBytes) := by
  obtain ⟨a0, len0, cap0, rfl⟩ := okWide_slice Tryz.underlying22 hok
  obtain ⟨fuel, hf⟩ := h
  rcases open_ints Tryz.underlying22 Tryz.underlying5 (by kernel_rfl) hf with ⟨hcs, hx⟩ | ⟨x, l, c, zs, hcs, _, hl, hm, hz, hx, hcell, hws⟩
  · simp [Value.cells] at hcs
    obtain ⟨rfl, rfl, rfl⟩ := hcs
    simp only [Prod.mk.injEq] at hx
    obtain ⟨rfl, _⟩ := hx
    exact ⟨[], ⟨none, 0, rfl, fun _ => rfl, Nat.le_refl _, fun h => absurd rfl h⟩, by simp [Rows.uptoBulk], fun _ => by simp⟩
  · simp [Value.cells] at hcs
    obtain ⟨rfl, rfl, rfl⟩ := hcs
    simp only [Prod.mk.injEq] at hx
    obtain ⟨hd, _⟩ := hx
    have hz' : zs.length = cap0 := by simpa using hz
    have hlen : ((zs.take len0).map (fun z : Int => UInt8.ofNat z.toNat)).length = len0 := by rw [List.length_map, List.length_take, Nat.min_eq_left (by omega)]
    refine ⟨(zs.take len0).map (fun z : Int => UInt8.ofNat z.toNat), ⟨some x, cap0, by rw [hlen], (fun e => by cases e), by omega, ?_⟩, ?_, ?_⟩
    · intro hne
      have hpos : 0 < len0 := by
        rcases Nat.eq_zero_or_pos len0 with h | h
        · subst h; simp at hne
        · exact h
      obtain ⟨b, off, rfl, hblt⟩ := addr_at (hcell 0 (by omega))
      refine ⟨b, off, rfl, hblt, fun j hj => ?_⟩
      rw [hlen] at hj
      have hc := hcell j (by omega)
      rw [Go.WideShapes.add_plain] at hc
      rw [hc]
      have hjz : j < zs.length := by omega
      simp only [List.getElem_map, List.getElem_take]
      rw [List.getD_eq_getElem?_getD, List.getElem?_eq_getElem hjz]
      have hw := hws _ (List.getElem_mem hjz)
      have hb : 0 ≤ zs[j] ∧ zs[j] < 256 := byte_wf hw
      show some (Value.int .u8 zs[j]) = some (B _)
      unfold B
      simp only [Option.some.injEq, Value.int.injEq, true_and]
      rw [UInt8.toNat_ofNat']
      omega
    · rw [hd, hlen]
      simp only [Rows.uptoBulk]
      rw [bulk_lits, List.length_take, Nat.min_eq_left (by omega)]
      omega
    · intro hw
      have hub : Tryz.prog.bytesOf 5 = 1 := by kernel_rfl
      rw [hd] at hw
      simp only [DataW.weights, Tryz.underlying22, List.mem_cons, List.mem_append, forall_eq_or_imp, hub] at hw
      obtain ⟨hw1, hw2⟩ := hw
      rw [hlen]
      have e : (lits (H := H) .u8 (zs.take len0)).length = len0 := by unfold lits; rw [List.length_map, List.length_take, Nat.min_eq_left (by omega)]
      rw [e] at hw1
      omega
end Go.Proofs.YtenegcoapejbmaaGreatDoor
namespace Go.Proofs.YtenegcoapejbmaaGreatDoor
open Go.RowKit
def ren : Go.Shelf.Ren where
  f := fun x => x
  t := fun x => if x = 5 then 5 else if x = 119 then 150 else if x = 138 then 152 else 153
  g := fun x => if x = 3 then 4 else 5
theorem ren_types : U8Types Tryz.prog ren := ⟨Tryz.underlying5, Tryz.underlying150, Tryz.underlying152, Tryz.underlying153⟩
theorem ren_extra : U8Extra Tryz.prog ren := ⟨by kernel_rfl, by kernel_rfl, by kernel_rfl, by kernel_rfl, by kernel_rfl, by kernel_rfl, by kernel_rfl⟩
set_option maxRecDepth 100000 in
theorem first_eq : Go.Pinned.utf8First = Lib.firstData := by kernel_rfl
set_option maxRecDepth 100000 in
theorem env_of {W : World} {l : List (String × DataW Unit)} (h : laidMet Tryz.prog l W) (hsh : W.ShapedOpen Tryz.prog) (h1 : ("unicode/utf8.first", Go.Pinned.utf8First) ∈ l) (h2 : ("unicode/utf8.acceptRanges", Lib.acceptData) ∈ l) : Env W := by
  rw [first_eq] at h1
  exact ⟨maxV_of hsh, utf8Tabs_of_readsT (ρ := ren) ren_types ren_extra (Lib.laidMet.reads h h1) (Lib.laidMet.reads h h2)⟩
end Go.Proofs.YtenegcoapejbmaaGreatDoor
namespace Go.Proofs.YtenegcoapejbmaaGreatDoor
open Go.ChangeShapes Go.WideShapes Go.ChangeAt Go.RowKit
theorem int_wf {n : Int} (h : (Lit.int .i64 n).wf = true) : -9223372036854775808 ≤ n ∧ n ≤ 9223372036854775807 := by
  have h1 : IntKind.i64.min = -9223372036854775808 := rfl
  have h2 : IntKind.i64.max = 9223372036854775807 := rfl
  simp only [Lit.wf, Bool.and_eq_true, decide_eq_true_eq] at h
  omega
theorem ba_list (s : ByteArray) : s = ⟨s.data.toList.toArray⟩ := by cases s; simp
set_option maxRecDepth 100000 in
theorem open_rs {H : Type} {enc : TypeId × Value → H} {W : World} {base : Nat} {v : Value} {d : DataW H} {p : List MemPlace} (hok : Value.okWide Tryz.prog W .any base 27 v) (h : DataW.Trod enc Tryz.prog W 0 (fun _ => true) true 27 v d p) :
    ∃ (s : Int) (r : List UInt8) (k : Int) (lv : Value) (fs : FL), v = .agg #[.int .i64 s, .string ⟨r.toArray⟩, .int .i64 k, lv] ∧ HoldsF W lv fs ∧ r.length + bulkF fs + 5 ≤ Rows.uptoBulk d ∧ (-9223372036854775808 ≤ s ∧ s ≤ 9223372036854775807) ∧ (-9223372036854775808 ≤ k ∧ k ≤ 9223372036854775807) := by
  obtain ⟨v0, v1, v2, v3, y0, y1, y2, y3, n, rfl, rfl, _, h0, h1, h2, h3⟩ := Joins.open_agg4 Tryz.underlying27 (by kernel_rfl) (by kernel_rfl) hok h
  obtain ⟨s, e0, x0, wf0⟩ := DataW.trod_int Tryz.underlying3 h0
  obtain ⟨s1, e1, x1, _⟩ := DataW.trod_string Tryz.underlying9 h1
  obtain ⟨k, e2, x2, wf2⟩ := DataW.trod_int Tryz.underlying3 h2
  obtain ⟨a, l, c, e3⟩ := Joins.slice_form Tryz.underlying25 h3
  simp only [List.cons.injEq, and_true] at e0 e1 e2 e3
  subst e0 e1 e2 e3 x0 x1 x2
  obtain ⟨fs, hF, hb, _⟩ := open_fieldsS ⟨a, l, c, rfl⟩ (⟨n, h3⟩ : DataW.Trod enc Tryz.prog W 0 (fun _ => true) true 25 (.slice a l c) y3.1 y3.2)
  refine ⟨s, s1.data.toList, k, _, fs, by rw [← ba_list], hF, ?_, int_wf wf0, int_wf wf2⟩
  simp only [Rows.uptoBulk, Rows.uptoBulkAll]
  omega
end Go.Proofs.YtenegcoapejbmaaGreatDoor
