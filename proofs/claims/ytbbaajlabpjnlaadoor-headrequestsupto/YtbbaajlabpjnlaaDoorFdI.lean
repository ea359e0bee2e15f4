/- What the decoder of runes says of bytes that are no ASCII; the library's two tables; what the search of one byte, and of a text, says of a line's two last bytes. -/
import Derived.Test.YtbbaajlabpjnlaaDoorFdQ
import Derived.Test.YtbbaajlabpjnlaaDoorShelfD
import Derived.Test.YtbbaajlabpjnlaaDoorShelfE
import Derived.Lib.MapLaws
import Derived.Lib.IndexEntry
import Derived.Laws.Runes
import Derived.Laws.RangeString
namespace Go.Proofs.YtbbaajlabpjnlaaDoor
open Go.RowKit
/-- the library's two tables of unicode/utf8 -/
def TabsV (w : World) : Prop := Lib.Utf8Tabs 1 2 w
theorem cell_lt' {w : World} {g o : Nat} {v : Value} (h : w.cell? ⟨g, o, none⟩ = some v) : g < w.heap.size := by
  rcases Nat.lt_or_ge g w.heap.size with h1 | h1
  · exact h1
  · unfold World.cell? at h
    rw [Array.getElem?_eq_none h1] at h
    simp at h
theorem tabsV_below {w w' : World} (h : TabsV w) (hb : Below w.heap.size w w') : TabsV w' := by
  refine ⟨fun c hc => ?_, fun i hi => ?_⟩
  · have := h.1 c hc
    rw [hb.cell (p := ⟨_, c, none⟩) (cell_lt' this)]; exact this
  · obtain ⟨h1, h2⟩ := h.2 i hi
    exact ⟨by rw [hb.cell (p := ⟨_, 2 * i, none⟩) (cell_lt' h1)]; exact h1, by rw [hb.cell (p := ⟨_, 2 * i + 1, none⟩) (cell_lt' h2)]; exact h2⟩
/-- what is decoded where no ASCII byte stands -/
theorem dec_spec (l : List UInt8) (h0 : 0 < l.length) (h128 : 128 ≤ (l[0]).toNat) : ∃ R K : Nat, Lib.decodeGo ⟨l.toArray⟩ = (R, K) ∧ 1 ≤ K ∧ K ≤ l.length ∧ K ≤ 4 ∧ 128 ≤ R ∧ R ≤ 1114111 ∧ (∀ j (h : j < l.length), j < K → 128 ≤ (l[j]).toNat) ∧
    (R = 65533 ∨ (Utf8.valid R = true ∧ 2 ≤ K ∧ (Utf8.encode R).size = K)) := by
  have hsz : (⟨l.toArray⟩ : ByteArray).size = l.length := size_l l
  have hd : Lib.decodeGo ⟨l.toArray⟩ = Lib.decodeN l.length ((⟨l.toArray⟩ : ByteArray).get! 0).toNat ((⟨l.toArray⟩ : ByteArray).get! 1).toNat ((⟨l.toArray⟩ : ByteArray).get! 2).toNat ((⟨l.toArray⟩ : ByteArray).get! 3).toNat := by
    unfold Lib.decodeGo
    rw [if_neg (by rw [hsz]; omega), Lib.decode_at, hsz]
    simp
  have hg : ∀ j (h : j < l.length), ((⟨l.toArray⟩ : ByteArray).get! j) = l[j] := by
    intro j h
    show l.toArray[j]! = l[j]
    rw [getElem!_pos l.toArray j (by simpa using h)]
    simp
  have h0' := hg 0 h0
  have v1 : ∀ R : Nat, 128 ≤ R → R ≤ 1114111 → (R < 55296 ∨ 57344 ≤ R) → Utf8.valid R = true := by
    intro R a b c
    unfold Utf8.valid
    simp
    omega
  have e1 : ∀ R : Nat, Utf8.valid R = true → 128 ≤ R → (Utf8.encode R).size = if R < 2048 then 2 else if R < 65536 then 3 else 4 := by
    intro R hv ha
    unfold Utf8.encode
    simp only [hv, if_true, Int.toNat_natCast]
    rw [if_neg (by omega)]
    split
    · rfl
    · split <;> rfl
  rcases Lib.decodeN_shape l.length ((⟨l.toArray⟩ : ByteArray).get! 0).toNat ((⟨l.toArray⟩ : ByteArray).get! 1).toNat ((⟨l.toArray⟩ : ByteArray).get! 2).toNat ((⟨l.toArray⟩ : ByteArray).get! 3).toNat with ⟨c, e⟩ | ⟨c1, c2, c3, cv, e⟩ | ⟨c1, c2, c3, c4, cv, cs, e⟩ | ⟨c1, c2, c3, c4, c5, cv, cw, e⟩ | e
  · exfalso; rw [h0'] at c; omega
  · rw [hg 1 c2] at c3
    have hv := v1 _ cv (by omega) (by omega)
    refine ⟨_, 2, hd.trans e, by omega, by omega, by omega, cv, by omega, ?_, Or.inr ⟨hv, by omega, ?_⟩⟩
    · intro j hj hk
      match j, hk with
      | 0, _ => exact h128
      | 1, _ => omega
    · rw [e1 _ hv cv, if_pos (by omega)]
  · rw [hg 1 (by omega)] at c3
    rw [hg 2 c2] at c4
    have hv := v1 _ (by omega) (by omega) cs
    refine ⟨_, 3, hd.trans e, by omega, by omega, by omega, by omega, by omega, ?_, Or.inr ⟨hv, by omega, ?_⟩⟩
    · intro j hj hk
      match j, hk with
      | 0, _ => exact h128
      | 1, _ => omega
      | 2, _ => omega
    · rw [e1 _ hv (by omega), if_neg (by omega), if_pos (by omega)]
  · rw [hg 1 (by omega)] at c3
    rw [hg 2 (by omega)] at c4
    rw [hg 3 c2] at c5
    have hv := v1 _ (by omega) cw (by omega)
    refine ⟨_, 4, hd.trans e, by omega, by omega, by omega, by omega, cw, ?_, Or.inr ⟨hv, by omega, ?_⟩⟩
    · intro j hj hk
      match j, hk with
      | 0, _ => exact h128
      | 1, _ => omega
      | 2, _ => omega
      | 3, _ => omega
    · rw [e1 _ hv (by omega), if_neg (by omega), if_neg (by omega)]
  · refine ⟨65533, 1, hd.trans e, by omega, by omega, by omega, by omega, by omega, ?_, Or.inl rfl⟩
    intro j hj hk
    match j, hk with
    | 0, _ => exact h128
/-- the search of one byte among a line's two last -/
theorem ibs (c : UInt8) (w : World) : ∃ r : Int, (callFunc 64 #[.string ⟨#[13, 10]⟩, .int .u8 (c.toNat : Int)]).run Tryd.prog w = .ok (.value (.int .i64 r)) w ∧ (isEnd c = true → 0 ≤ r) ∧ (isEnd c = false → r < 0) := by
  have h : (callFunc 64 #[.string ⟨#[13, 10]⟩, .int .u8 (c.toNat : Int)]).run Tryd.prog w = .ok (.value (.int .i64 (Lib.indexByte [13, 10] ((c.toNat : Int).toNat.toUInt8)))) w := by
    rw [run_callFunc_extern Tryd.func64 (by kernel_rfl) (by kernel_rfl) (by kernel_rfl) (e := Extern.BytealgIndexByte.indexByte) (by kernel_rfl), Lib.run_indexByteString]
    rfl
  refine ⟨_, h, ?_, ?_⟩
  · intro he
    have hb : ((c.toNat : Int)).toNat.toUInt8 = c := by simp
    rw [hb]
    unfold isEnd at he
    rcases of_decide_eq_true he with rfl | rfl <;> decide
  · intro he
    have hb : ((c.toNat : Int)).toNat.toUInt8 = c := by simp
    rw [hb]
    unfold isEnd at he
    have he := of_decide_eq_false he
    have h1 : ¬ 13 = c := fun e => he (.inl e.symm)
    have h2 : ¬ 10 = c := fun e => he (.inr e.symm)
    have : Lib.indexByte [13, 10] c = -1 := by simp [Lib.indexByte, h1, h2]
    rw [this]; decide
theorem enc_ne' (E : ByteArray) (h1 : 2 ≤ E.size) (h3 : ∀ h : E.size - 1 < E.size, 128 ≤ (E[E.size - 1]'h).toNat) : ¬ E.data.toList = [13, 10] := by
  intro e
  have h4 := h3 (by omega)
  have he : E = ⟨#[13, 10]⟩ := by cases E; simp at e; simp [← e]
  have key : ∀ b : ByteArray, b = ⟨#[13, 10]⟩ → ∀ h : b.size - 1 < b.size, (b[b.size - 1]'h).toNat = 10 := by
    rintro _ rfl h; rfl
  rw [key _ he] at h4
  omega
/-- the search of a text of two bytes or more, other than they are, among a line's two last bytes -/
theorem iss (E : ByteArray) (w : World) (m : Int) (hm : w.cell? ⟨0, 0, none⟩ = some (.int .i64 m)) (h1 : 2 ≤ E.size) (hne : ¬ E.data.toList = [13, 10]) (hK : (E.size : Int) ≤ m) :
    (callFunc 70 #[.string ⟨#[13, 10]⟩, .string E]).run Tryd.prog w = .ok (.value (.int .i64 (-1))) w := by
  have hi : Lib.index [13, 10] E.data.toList = -1 := by
    refine Lib.index_long ?_ hne
    have : E.data.toList.length = E.size := by simp
    rw [this]; exact h1
  rw [run_callFunc_extern Tryd.func70 (by kernel_rfl) (by kernel_rfl) (by kernel_rfl) (e := Extern.BytealgIndex.index) (by kernel_rfl), Lib.run_indexString ⟨#[13, 10]⟩ E w 0 m (by kernel_rfl) hm h1 hK (by show 2 < 4294967281; omega)]
  rw [show (⟨#[13, 10]⟩ : ByteArray).data.toList = [13, 10] from rfl, hi]
  rfl
end Go.Proofs.YtbbaajlabpjnlaaDoor
