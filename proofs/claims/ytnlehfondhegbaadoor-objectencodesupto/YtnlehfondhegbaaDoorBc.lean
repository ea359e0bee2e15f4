/- The bodies of the library's functions that are met here are those that the kit's contracts were proved of: the tables of numbers, checked body by body. The bodies of the library's functions that are met here are those that the kit's contracts were proved of: the tables of numbers, checked body by body. What the decoder of runes says of bytes that are no ASCII; the library's two tables; what the search of one byte, and of a text, says of a line's two last bytes. The contract of bytes.IndexAny at a line's two last bytes, of two to eight bytes. The contract of bytes.ContainsAny at a line's two last bytes. The contract of strings.IndexAny at the two blanks: whether a text begins with one. The contracts of CopyBytes and SameBytes; Parse of any bytes; the laws' own check of one call. The contracts of Values and of the document's Values. -/
import Derived.Shelf.Bytes.SlTrimWalks
import Derived.Test.YtnlehfondhegbaaDoorProg
import Derived.Shelf.Spec.DecodeRune
import Derived.Test.YtnlehfondhegbaaDoorBb
import Derived.Lib.MapLaws
import Derived.Lib.IndexEntry
import Derived.Laws.Runes
import Derived.Laws.RangeString
import Derived.Deep.WholeRow
import Derived.Lib.Builder
import Derived.Shelf.Strings.IndexAnyAll
import Derived.Deep.LoopGhost
import Derived.Shelf.Small.Utf8
import Derived.Test.YtnlehfondhegbaaDoorBa
namespace Go.Proofs
open Go.Shelf
end Go.Proofs
namespace Go.Proofs
open Go.Shelf
end Go.Proofs
namespace Go.Proofs.YtnlehfondhegbaaDoor
open Go.RowKit
/-- the library's two tables of unicode/utf8 -/
def TabsV (w : World) : Prop := Lib.Utf8Tabs 4 5 w
theorem cell_lt' {w : World} {g o : Nat} {v : Value} (h : w.cell? ⟨g, o, none⟩ = some v) : g < w.heap.size := by
  rcases Nat.lt_or_ge g w.heap.size with h1 | h1
  · exact h1
  · unfold World.cell? at h
    rw [Array.getElem?_eq_none h1] at h
    simp at h
theorem tabsV_below {w w' : World} (h : TabsV w) (hb : Below w.heap.size w w') : TabsV w' := by
  refine ⟨fun c hc => ?_, fun i hi => ?_⟩
  · have := h.1 c hc
    rw [hb.cell (p := ⟨_, c, none⟩) (cell_lt' this)]; exact this
  · obtain ⟨h1, h2⟩ := h.2 i hi
    exact ⟨by rw [hb.cell (p := ⟨_, 2 * i, none⟩) (cell_lt' h1)]; exact h1, by rw [hb.cell (p := ⟨_, 2 * i + 1, none⟩) (cell_lt' h2)]; exact h2⟩
/-- what is decoded where no ASCII byte stands -/
theorem dec_spec (l : List UInt8) (h0 : 0 < l.length) (h128 : 128 ≤ (l[0]).toNat) : ∃ R K : Nat, Lib.decodeGo ⟨l.toArray⟩ = (R, K) ∧ 1 ≤ K ∧ K ≤ l.length ∧ K ≤ 4 ∧ 128 ≤ R ∧ R ≤ 1114111 ∧ (∀ j (h : j < l.length), j < K → 128 ≤ (l[j]).toNat) ∧
    (R = 65533 ∨ (Utf8.valid R = true ∧ 2 ≤ K ∧ (Utf8.encode R).size = K)) := by
  have hsz : (⟨l.toArray⟩ : ByteArray).size = l.length := size_l l
  have hd : Lib.decodeGo ⟨l.toArray⟩ = Lib.decodeN l.length ((⟨l.toArray⟩ : ByteArray).get! 0).toNat ((⟨l.toArray⟩ : ByteArray).get! 1).toNat ((⟨l.toArray⟩ : ByteArray).get! 2).toNat ((⟨l.toArray⟩ : ByteArray).get! 3).toNat := by
    unfold Lib.decodeGo
    rw [if_neg (by rw [hsz]; omega), Lib.decode_at, hsz]
    simp
  have hg : ∀ j (h : j < l.length), ((⟨l.toArray⟩ : ByteArray).get! j) = l[j] := by
    intro j h
    show l.toArray[j]! = l[j]
    rw [getElem!_pos l.toArray j (by simpa using h)]
    simp
  have h0' := hg 0 h0
  have v1 : ∀ R : Nat, 128 ≤ R → R ≤ 1114111 → (R < 55296 ∨ 57344 ≤ R) → Utf8.valid R = true := by
    intro R a b c
    unfold Utf8.valid
    simp
    omega
  have e1 : ∀ R : Nat, Utf8.valid R = true → 128 ≤ R → (Utf8.encode R).size = if R < 2048 then 2 else if R < 65536 then 3 else 4 := by
    intro R hv ha
    unfold Utf8.encode
    simp only [hv, if_true, Int.toNat_natCast]
    rw [if_neg (by omega)]
    split
    · rfl
    · split <;> rfl
  rcases Lib.decodeN_shape l.length ((⟨l.toArray⟩ : ByteArray).get! 0).toNat ((⟨l.toArray⟩ : ByteArray).get! 1).toNat ((⟨l.toArray⟩ : ByteArray).get! 2).toNat ((⟨l.toArray⟩ : ByteArray).get! 3).toNat with ⟨c, e⟩ | ⟨c1, c2, c3, cv, e⟩ | ⟨c1, c2, c3, c4, cv, cs, e⟩ | ⟨c1, c2, c3, c4, c5, cv, cw, e⟩ | e
  · exfalso; rw [h0'] at c; omega
  · rw [hg 1 c2] at c3
    have hv := v1 _ cv (by omega) (by omega)
    refine ⟨_, 2, hd.trans e, by omega, by omega, by omega, cv, by omega, ?_, Or.inr ⟨hv, by omega, ?_⟩⟩
    · intro j hj hk
      match j, hk with
      | 0, _ => exact h128
      | 1, _ => omega
    · rw [e1 _ hv cv, if_pos (by omega)]
  · rw [hg 1 (by omega)] at c3
    rw [hg 2 c2] at c4
    have hv := v1 _ (by omega) (by omega) cs
    refine ⟨_, 3, hd.trans e, by omega, by omega, by omega, by omega, by omega, ?_, Or.inr ⟨hv, by omega, ?_⟩⟩
    · intro j hj hk
      match j, hk with
      | 0, _ => exact h128
      | 1, _ => omega
      | 2, _ => omega
    · rw [e1 _ hv (by omega), if_neg (by omega), if_pos (by omega)]
  · rw [hg 1 (by omega)] at c3
    rw [hg 2 (by omega)] at c4
    rw [hg 3 c2] at c5
    have hv := v1 _ (by omega) cw (by omega)
    refine ⟨_, 4, hd.trans e, by omega, by omega, by omega, by omega, cw, ?_, Or.inr ⟨hv, by omega, ?_⟩⟩
    · intro j hj hk
      match j, hk with
      | 0, _ => exact h128
      | 1, _ => omega
      | 2, _ => omega
      | 3, _ => omega
    · rw [e1 _ hv (by omega), if_neg (by omega), if_neg (by omega)]
  · refine ⟨65533, 1, hd.trans e, by omega, by omega, by omega, by omega, by omega, ?_, Or.inl rfl⟩
    intro j hj hk
    match j, hk with
    | 0, _ => exact h128
/-- the search of one byte among a line's two last -/
theorem ibs (c : UInt8) (w : World) : ∃ r : Int, (callFunc 73 #[.string ⟨#[13, 10]⟩, .int .u8 (c.toNat : Int)]).run Tryd.prog w = .ok (.value (.int .i64 r)) w ∧ (isEnd c = true → 0 ≤ r) ∧ (isEnd c = false → r < 0) := by
  have h : (callFunc 73 #[.string ⟨#[13, 10]⟩, .int .u8 (c.toNat : Int)]).run Tryd.prog w = .ok (.value (.int .i64 (Lib.indexByte [13, 10] ((c.toNat : Int).toNat.toUInt8)))) w := by
    rw [run_callFunc_extern Tryd.func73 (by kernel_rfl) (by kernel_rfl) (by kernel_rfl) (e := Extern.BytealgIndexByte.indexByte) (by kernel_rfl), Lib.run_indexByteString]
    rfl
  refine ⟨_, h, ?_, ?_⟩
  · intro he
    have hb : ((c.toNat : Int)).toNat.toUInt8 = c := by simp
    rw [hb]
    unfold isEnd at he
    rcases of_decide_eq_true he with rfl | rfl <;> decide
  · intro he
    have hb : ((c.toNat : Int)).toNat.toUInt8 = c := by simp
    rw [hb]
    unfold isEnd at he
    have he := of_decide_eq_false he
    have h1 : ¬ 13 = c := fun e => he (.inl e.symm)
    have h2 : ¬ 10 = c := fun e => he (.inr e.symm)
    have : Lib.indexByte [13, 10] c = -1 := by simp [Lib.indexByte, h1, h2]
    rw [this]; decide
theorem enc_ne' (E : ByteArray) (h1 : 2 ≤ E.size) (h3 : ∀ h : E.size - 1 < E.size, 128 ≤ (E[E.size - 1]'h).toNat) : ¬ E.data.toList = [13, 10] := by
  intro e
  have h4 := h3 (by omega)
  have he : E = ⟨#[13, 10]⟩ := by cases E; simp at e; simp [← e]
  have key : ∀ b : ByteArray, b = ⟨#[13, 10]⟩ → ∀ h : b.size - 1 < b.size, (b[b.size - 1]'h).toNat = 10 := by
    rintro _ rfl h; rfl
  rw [key _ he] at h4
  omega
/-- the search of a text of two bytes or more, other than they are, among a line's two last bytes -/
theorem iss (E : ByteArray) (w : World) (m : Int) (hm : w.cell? ⟨3, 0, none⟩ = some (.int .i64 m)) (h1 : 2 ≤ E.size) (hne : ¬ E.data.toList = [13, 10]) (hK : (E.size : Int) ≤ m) :
    (callFunc 90 #[.string ⟨#[13, 10]⟩, .string E]).run Tryd.prog w = .ok (.value (.int .i64 (-1))) w := by
  have hi : Lib.index [13, 10] E.data.toList = -1 := by
    refine Lib.index_long ?_ hne
    have : E.data.toList.length = E.size := by simp
    rw [this]; exact h1
  rw [run_callFunc_extern Tryd.func90 (by kernel_rfl) (by kernel_rfl) (by kernel_rfl) (e := Extern.BytealgIndex.index) (by kernel_rfl), Lib.run_indexString ⟨#[13, 10]⟩ E w 3 m (by kernel_rfl) hm h1 hK (by show 2 < 4294967281; omega)]
  rw [show (⟨#[13, 10]⟩ : ByteArray).data.toList = [13, 10] from rfl, hi]
  rfl
end Go.Proofs.YtnlehfondhegbaaDoor
namespace Go.Proofs.YtnlehfondhegbaaDoor
open Go.RowKit
theorem end_big {c : UInt8} (h : 128 ≤ c.toNat) : isEnd c = false := by
  unfold isEnd
  simp
  constructor
  · rintro rfl; exact absurd h (by decide)
  · rintro rfl; exact absurd h (by decide)
theorem any_more (l : List UInt8) (i : Nat) (K : Nat) (hk : i + K ≤ l.length) (ha : (l.take i).any isEnd = false) (hb : ∀ j (h : i + j < l.length), j < K → 128 ≤ (l[i + j]).toNat) : (l.take (i + K)).any isEnd = false := by
  induction K with
  | zero => exact ha
  | succ K ih =>
    have h1 := ih (by omega) (fun j h hj => hb j h (by omega))
    rw [show i + (K + 1) = (i + K) + 1 by omega, List.take_succ_eq_append_getElem (by omega), List.any_append, h1]
    simp [end_big (hb K (by omega) (by omega))]
theorem any_next (l : List UInt8) (i : Nat) (hi : i < l.length) (ha : (l.take i).any isEnd = false) (hc : isEnd l[i] = false) : (l.take (i + 1)).any isEnd = false := by
  rw [List.take_succ_eq_append_getElem hi, List.any_append, ha]
  simp [hc]
theorem any_hit (l : List UInt8) (i : Nat) (hi : i < l.length) (hc : isEnd l[i] = true) : l.any isEnd = true := List.any_eq_true.2 ⟨l[i], List.getElem_mem hi, hc⟩
theorem from_at (b off n cap i : Nat) (hi : i < n) (hc : n ≤ cap) (w : World) : Sem.run Tryd.prog (Instr.slice 25 (.slice (some ⟨b, off, none⟩) n cap) (some (.int .i64 i)) none none) w = .ok (.slice (some ⟨b, off + i, none⟩) (n - i) (cap - i)) w := by
  have he : Tryd.prog.elem 25 = 5 := by kernel_rfl
  have h := run_slice_l (P := Tryd.prog) w 25 (some ⟨b, off, none⟩) n cap (by rw [he]; exact Tryd.underlying25) .i64 i (by omega) (by omega)
  rw [he, Tryd.sizeOf5] at h
  simp only [Result.andThen, Int.toNat_natCast, sliced] at h
  rw [h]
  have : ¬ cap = i := by omega
  simp [Addr.add, this]
theorem iter_below (w : World) (s : ByteArray) (pos : Nat) : Below w.heap.size w (w.iter s pos) := (Below.refl _ _).alloc (Nat.le_refl _) _
theorem next0 (w : World) (ty : TypeId) : (Instr.next (.pointer (some ⟨w.heap.size, 0, none⟩)) true ty).run Tryd.prog (w.iter ⟨#[13, 10]⟩ 0) = .ok (.tuple #[.bool true, .int .i64 0, .int .i32 13]) (w.iter ⟨#[13, 10]⟩ 1) := run_next_ascii w ⟨#[13, 10]⟩ 0 ty (by decide) (by decide)
theorem next1 (w : World) (ty : TypeId) : (Instr.next (.pointer (some ⟨w.heap.size, 0, none⟩)) true ty).run Tryd.prog (w.iter ⟨#[13, 10]⟩ 1) = .ok (.tuple #[.bool true, .int .i64 1, .int .i32 10]) (w.iter ⟨#[13, 10]⟩ 2) := run_next_ascii w ⟨#[13, 10]⟩ 1 ty (by decide) (by decide)
theorem next2 (w : World) (ty : TypeId) : (Instr.next (.pointer (some ⟨w.heap.size, 0, none⟩)) true ty).run Tryd.prog (w.iter ⟨#[13, 10]⟩ 2) = .ok (.tuple #[.bool false]) (w.iter ⟨#[13, 10]⟩ 2) := run_next_end w ⟨#[13, 10]⟩ 2 ty (by decide)
end Go.Proofs.YtnlehfondhegbaaDoor
namespace Go.Proofs.YtnlehfondhegbaaDoor
open Go.RowKit
theorem set_ascii : ∀ (j : Nat) b, (⟨#[13, 10]⟩ : ByteArray).data.toList[j]? = some b → b.toNat < 128 := by
  intro j b h
  match j, h with
  | 0, h => simp at h; subst h; decide
  | 1, h => simp at h; subst h; decide
theorem set_is (c : UInt8) : ([13, 10] : List UInt8).contains c = isEnd c := by
  unfold isEnd
  rw [Bool.eq_iff_iff]
  simp
end Go.Proofs.YtnlehfondhegbaaDoor
namespace Go.Proofs.YtnlehfondhegbaaDoor
open Go.RowKit
def setIter (w : World) (g : Nat) (s : ByteArray) (pos : Nat) : World := { w with heap := w.heap.setIfInBounds g (.stringIter s pos) }
theorem run_next_at (w : World) (g : Nat) (s : ByteArray) (pos : Nat) (ty : TypeId) (hg : w.heap[g]? = some (.stringIter s pos)) (h : pos < s.size) :
    (Instr.next (.pointer (some ⟨g, 0, none⟩)) true ty).run Tryd.prog w = .ok (.tuple #[.bool true, .int .i64 pos, .int .i32 (Utf8.decode s pos).1]) (setIter w g s (pos + (Utf8.decode s pos).2)) := by
  simp [Instr.next, getObj, setObj, Sem.run, hg, Result.andThen, h, goInt, setIter]
theorem run_next_over (w : World) (g : Nat) (s : ByteArray) (pos : Nat) (ty : TypeId) (hg : w.heap[g]? = some (.stringIter s pos)) (h : ¬ pos < s.size) :
    (Instr.next (.pointer (some ⟨g, 0, none⟩)) true ty).run Tryd.prog w = .ok (.tuple #[.bool false]) w := by
  simp [Instr.next, getObj, Sem.run, hg, h]
theorem iter_at {w : World} {g : Nat} {s : ByteArray} {pos : Nat} (hg : w.heap[g]? = some (.stringIter s pos)) (p : Nat) : (setIter w g s p).heap[g]? = some (.stringIter s p) := by
  have : g < w.heap.size := (Array.getElem?_eq_some_iff.1 hg).1
  simp [setIter, this]
theorem iter_keeps {W w : World} {g : Nat} {s : ByteArray} {p : Nat} (hb : Below W.heap.size W w) (hg : W.heap.size ≤ g) : Below W.heap.size W (setIter w g s p) :=
  hb.trans ⟨rfl, rfl, rfl, by simp [setIter], fun k hk => by
    simp only [setIter]
    rw [Array.getElem?_setIfInBounds_ne (by omega)]⟩
theorem iter_stays {w w' : World} {g : Nat} {s : ByteArray} {pos : Nat} (hg : w.heap[g]? = some (.stringIter s pos)) (hb : Below w.heap.size w w') : w'.heap[g]? = some (.stringIter s pos) := by
  have : g < w.heap.size := (Array.getElem?_eq_some_iff.1 hg).1
  rw [hb.block g this]; exact hg
theorem dec_at (s : ByteArray) (i : Nat) (hi : i < s.size) (h128 : 128 ≤ (s[i]).toNat) : ∃ R K : Nat, Utf8.decode s i = (R, K) ∧ 1 ≤ K ∧ i + K ≤ s.size ∧ 128 ≤ R ∧ R ≤ 1114111 ∧ (R = 65533 ∨ Utf8.valid R = true) := by
  have hl : (s.data.toList.drop i).length = s.size - i := by simp
  have hg : ∀ j, (⟨(s.data.toList.drop i).toArray⟩ : ByteArray).get! j = s.get! (i + j) := by
    intro j
    show ((s.data.toList.drop i).toArray)[j]! = s.data[i + j]!
    by_cases h : i + j < s.size
    · rw [getElem!_pos _ j (by simp; omega), getElem!_pos s.data (i + j) h]
      simp
    · rw [getElem!_neg _ j (by simp; omega), getElem!_neg s.data (i + j) h]
  have h0 : 0 < (s.data.toList.drop i).length := by omega
  have e0 : (s.data.toList.drop i)[0]'h0 = s[i] := by simp; rfl
  obtain ⟨R, K, hd, k1, k2, _, r1, r2, _, hk⟩ := dec_spec (s.data.toList.drop i) h0 (by rw [e0]; exact h128)
  have he : Utf8.decode s i = Lib.decodeGo ⟨(s.data.toList.drop i).toArray⟩ := by
    unfold Lib.decodeGo
    have hz := size_l (s.data.toList.drop i)
    rw [hl] at hz
    rw [if_neg (by omega), Lib.decode_at, Lib.decode_at, hg 0, hg (0 + 1), hg (0 + 2), hg (0 + 3), hz]
    simp
  exact ⟨R, K, he.trans hd, k1, by omega, r1, r2, hk.imp id (fun h => h.1)⟩
theorem nextA (w : World) (ty : TypeId) : (Instr.next (.pointer (some ⟨w.heap.size, 0, none⟩)) true ty).run Tryd.prog (w.iter ⟨#[32, 9]⟩ 0) = .ok (.tuple #[.bool true, .int .i64 0, .int .i32 32]) (w.iter ⟨#[32, 9]⟩ 1) := run_next_ascii w ⟨#[32, 9]⟩ 0 ty (by decide) (by decide)
theorem nextB (w : World) (ty : TypeId) : (Instr.next (.pointer (some ⟨w.heap.size, 0, none⟩)) true ty).run Tryd.prog (w.iter ⟨#[32, 9]⟩ 1) = .ok (.tuple #[.bool true, .int .i64 1, .int .i32 9]) (w.iter ⟨#[32, 9]⟩ 2) := run_next_ascii w ⟨#[32, 9]⟩ 1 ty (by decide) (by decide)
theorem nextC (w : World) (ty : TypeId) : (Instr.next (.pointer (some ⟨w.heap.size, 0, none⟩)) true ty).run Tryd.prog (w.iter ⟨#[32, 9]⟩ 2) = .ok (.tuple #[.bool false]) (w.iter ⟨#[32, 9]⟩ 2) := run_next_end w ⟨#[32, 9]⟩ 2 ty (by decide)
theorem form2 (E : ByteArray) (h : E.size = 2) (h3 : ∀ h : E.size - 1 < E.size, 128 ≤ (E[E.size - 1]'h).toNat) : ∃ x y : UInt8, E = ⟨#[x, y]⟩ ∧ 128 ≤ y.toNat := by
  obtain ⟨d⟩ := E
  obtain ⟨l⟩ := d
  match l, h with
  | [x, y], _ => exact ⟨x, y, rfl, h3 (by show 1 < 2; omega)⟩
theorem form3 (E : ByteArray) (h : E.size = 3) : ∃ x y z : UInt8, E = ⟨#[x, y, z]⟩ := by
  obtain ⟨d⟩ := E
  obtain ⟨l⟩ := d
  match l, h with
  | [x, y, z], _ => exact ⟨x, y, z, rfl⟩
theorem form4 (E : ByteArray) (h : E.size = 4) : ∃ x y z u : UInt8, E = ⟨#[x, y, z, u]⟩ := by
  obtain ⟨d⟩ := E
  obtain ⟨l⟩ := d
  match l, h with
  | [x, y, z, u], _ => exact ⟨x, y, z, u, rfl⟩
theorem ibNone (c : Int) (w : World) : Calls Tryd.prog 65 #[.string ⟨#[]⟩, .int .u8 c] w fun e w' => e = .returned (.int .i64 (-1)) ∧ w' = w := by
  refine (Any.strings_IndexByte Tryd.lays137 ⟨#[]⟩ c w).mono ?_
  rintro e w' ⟨rfl, hw⟩
  exact ⟨rfl, hw⟩
theorem wrap2 : IntKind.i64.wrap 2 = 2 := by decide
theorem rest2 (W : World) : Sem.run Tryd.prog (Instr.slice 9 (.string ⟨#[32, 9]⟩) (some (.int .i64 2)) none none) W = .ok (.string ⟨#[]⟩) W := by kernel_rfl
theorem idx_first (l : List UInt8) : (Lib.indexAny l [32, 9] == 0) = blankFirst l := by
  cases l with
  | nil => rfl
  | cons c r =>
    have hb := blank_is c
    have e : blankFirst (c :: r) = blankI (c.toNat : Int) := rfl
    rw [e]
    unfold Lib.indexAny
    rw [hb]
    have hge := Lib.indexAny_ge [32, 9] r
    cases h : blankI (c.toNat : Int) with
    | true => rfl
    | false =>
      simp only [Bool.false_eq_true, if_false]
      split
      · rfl
      · rename_i h2
        have h2 : ¬ Lib.indexAny r [32, 9] = -1 := by simpa using h2
        have h3 : ¬ Lib.indexAny r [32, 9] + 1 = 0 := by omega
        simpa using h3
theorem two_ascii : ∀ (j : Nat) b, (⟨#[32, 9]⟩ : ByteArray).data.toList[j]? = some b → b.toNat < 128 := by
  intro j b h
  match j, h with
  | 0, h => simp at h; subst h; decide
  | 1, h => simp at h; subst h; decide
theorem sset_info : (Tryd.prog.info? 84).map (fun i => (i.zero, i.size)) = some (some (.agg (Array.replicate 256 (.bool false))), 256) := by kernel_rfl
theorem blank_at (s : ByteArray) (h : 0 < s.size) : blankFirst s.data.toList = blankI ((s[0]).toNat : Int) := by
  have : s.data.toList = s[0] :: s.data.toList.drop 1 := by
    have := List.drop_eq_getElem_cons (l := s.data.toList) (i := 0) (by simpa using h)
    rw [List.drop_zero] at this
    exact this
  rw [this]; rfl
end Go.Proofs.YtnlehfondhegbaaDoor
namespace Go.Proofs.YtnlehfondhegbaaDoor
open Go.RowKit
/-- what the road of Parse reads of the library's variables -/
def Env (w : World) : Prop := MaxV w ∧ TabsV w
theorem env_below {w w' : World} (h : Env w) (hb : Below w.heap.size w w') : Env w' := ⟨maxV_below h.1 hb, tabsV_below h.2 hb⟩
theorem parseF_len : ∀ (n : Nat) (bs : List UInt8) (acc : FL), acc.length ≤ 100 → (parseF n bs acc).1.length ≤ 100 := by
  intro n
  induction n with
  | zero => intro bs acc h; exact h
  | succ n ih =>
    intro bs acc h
    unfold parseF
    split
    · exact h
    · split
      · simp
      · split
        · simp
        · split
          · simp
          · exact ih _ _ (by rw [List.length_append, List.length_singleton]; omega)
theorem parse_len (bs : List UInt8) : (parseOf bs).1.length ≤ 100 := parseF_len _ _ _ (by simp)
end Go.Proofs.YtnlehfondhegbaaDoor
namespace Go.Proofs.YtnlehfondhegbaaDoor
open Go.RowKit
theorem ba_eql' (a b : List UInt8) (h : ¬ a = b) : ((⟨a.toArray⟩ : ByteArray).toList == (⟨b.toArray⟩ : ByteArray).toList) = false := by
  rw [Lib.toList_data, Lib.toList_data]; simpa using h
end Go.Proofs.YtnlehfondhegbaaDoor
