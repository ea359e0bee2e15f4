/- The bodies of the library's functions that are met here are those that the kit's contracts were proved of: the tables of numbers, checked body by body. The bodies of the library's functions that are met here are those that the kit's contracts were proved of: the tables of numbers, checked body by body. What the decoder of runes says of bytes that are no ASCII; the library's two tables; what the search of one byte, and of a text, says of a line's two last bytes. The contract of bytes.IndexAny at a line's two last bytes, of two to eight bytes. The contract of bytes.ContainsAny at a line's two last bytes. The contract of strings.IndexAny at the two blanks: whether a text begins with one. The contracts of CopyBytes and SameBytes; Parse of any bytes; the laws' own check of one call. The contracts of Values and of the document's Values. -/
import Derived.Shelf.Bytes.SlTrimWalks
import Derived.Test.YtenegcoapejbmaaGreatDoorProg
import Derived.Shelf.Spec.DecodeRune
import Derived.Test.YtenegcoapejbmaaGreatDoorBb
import Derived.Lib.MapLaws
import Derived.Lib.IndexEntry
import Derived.Laws.Runes
import Derived.Laws.RangeString
import Derived.Deep.WholeRow
import Derived.Lib.Builder
import Derived.Shelf.Strings.IndexAnyAll
import Derived.Deep.LoopGhost
import Derived.Shelf.Small.Utf8
import Derived.Test.YtenegcoapejbmaaGreatDoorBa
namespace Go.Proofs
open Go.Shelf
def Tryz.laysV11_ren : Go.Shelf.Ren := ⟨fun | 11 => 103 | n => n, fun | 9 => 9 | 27 => 119 | 4 => 4 | 0 => 0 | 3 => 3 | 5 => 5 | n => n, fun | n => n⟩
theorem Tryz.laysV11 : Go.Proofs.SlLaysV.n11 Tryz.prog Tryz.laysV11_ren := {
  mixed := by kernel_rfl
  f11 := Tryz.func103.trans (congrArg some (by kernel_rfl))
  t0 := Tryz.underlying0
  a0 := Tryz.isAgg0
  z0 := Tryz.sizeOf0
  v0 := Tryz.zeroValue0
  t3 := Tryz.underlying3
  a3 := Tryz.isAgg3
  z3 := Tryz.sizeOf3
  v3 := Tryz.zeroValue3
  t4 := Tryz.underlying4
  a4 := Tryz.isAgg4
  z4 := Tryz.sizeOf4
  v4 := Tryz.zeroValue4
  t5 := Tryz.underlying5
  a5 := Tryz.isAgg5
  z5 := Tryz.sizeOf5
  v5 := Tryz.zeroValue5
  t9 := Tryz.underlying9
  a9 := Tryz.isAgg9
  z9 := Tryz.sizeOf9
  v9 := Tryz.zeroValue9
  t27 := Tryz.underlying119
  a27 := Tryz.isAgg119
  z27 := Tryz.sizeOf119 }
def Tryz.laysV16_ren : Go.Shelf.Ren := ⟨fun | 16 => 104 | n => n, fun | 31 => 140 | 5 => 5 | 4 => 4 | 0 => 0 | 27 => 119 | n => n, fun | n => n⟩
theorem Tryz.laysV16 : Go.Proofs.SlLaysV.n16 Tryz.prog Tryz.laysV16_ren := {
  mixed := by kernel_rfl
  f16 := Tryz.func104.trans (congrArg some (by kernel_rfl))
  t0 := Tryz.underlying0
  a0 := Tryz.isAgg0
  z0 := Tryz.sizeOf0
  v0 := Tryz.zeroValue0
  t4 := Tryz.underlying4
  a4 := Tryz.isAgg4
  z4 := Tryz.sizeOf4
  v4 := Tryz.zeroValue4
  t5 := Tryz.underlying5
  a5 := Tryz.isAgg5
  z5 := Tryz.sizeOf5
  v5 := Tryz.zeroValue5
  t27 := Tryz.underlying119
  a27 := Tryz.isAgg119
  z27 := Tryz.sizeOf119
  t31 := Tryz.underlying140
  a31 := Tryz.isAgg140
  z31 := Tryz.sizeOf140
  v31 := Tryz.zeroValue140 }
end Go.Proofs
namespace Go.Proofs
open Go.Shelf
def Tryz.lays7_32_ren : Go.Shelf.Ren := ⟨fun | 32 => 105 | 49 => 128 | n => n, fun | 30 => 22 | 21 => 21 | 3 => 3 | 0 => 0 | 5 => 5 | 4 => 4 | 33 => 122 | 66 => 150 | 25 => 74 | 69 => 153 | 68 => 152 | n => n, fun | 2 => 4 | 3 => 5 | n => n⟩
theorem Tryz.lays7_32 : Go.Proofs.Lays7.n32 Tryz.prog Tryz.lays7_32_ren := {
  mixed := by kernel_rfl
  f32 := Tryz.func105.trans (congrArg some (by kernel_rfl))
  f49 := Tryz.func128.trans (congrArg some (by kernel_rfl))
  t0 := Tryz.underlying0
  a0 := Tryz.isAgg0
  z0 := Tryz.sizeOf0
  v0 := Tryz.zeroValue0
  i0 := by kernel_rfl
  t3 := Tryz.underlying3
  a3 := Tryz.isAgg3
  z3 := Tryz.sizeOf3
  v3 := Tryz.zeroValue3
  i3 := by kernel_rfl
  t4 := Tryz.underlying4
  a4 := Tryz.isAgg4
  z4 := Tryz.sizeOf4
  v4 := Tryz.zeroValue4
  i4 := by kernel_rfl
  t5 := Tryz.underlying5
  a5 := Tryz.isAgg5
  z5 := Tryz.sizeOf5
  v5 := Tryz.zeroValue5
  i5 := by kernel_rfl
  t21 := Tryz.underlying21
  a21 := Tryz.isAgg21
  z21 := Tryz.sizeOf21
  v21 := Tryz.zeroValue21
  i21 := by kernel_rfl
  t25 := Tryz.underlying74
  a25 := Tryz.isAgg74
  z25 := Tryz.sizeOf74
  v25 := Tryz.zeroValue74
  i25 := by kernel_rfl
  t30 := Tryz.underlying22
  a30 := Tryz.isAgg22
  z30 := Tryz.sizeOf22
  v30 := Tryz.zeroValue22
  i30 := by kernel_rfl
  t33 := Tryz.underlying122
  a33 := Tryz.isAgg122
  z33 := Tryz.sizeOf122
  v33 := Tryz.zeroValue122
  i33 := by kernel_rfl
  t66 := Tryz.underlying150
  a66 := Tryz.isAgg150
  z66 := Tryz.sizeOf150
  t68 := Tryz.underlying152
  a68 := Tryz.isAgg152
  z68 := Tryz.sizeOf152
  v68 := Tryz.zeroValue152
  i68 := by kernel_rfl
  t69 := Tryz.underlying153
  a69 := Tryz.isAgg153
  z69 := Tryz.sizeOf153
  v69 := Tryz.zeroValue153
  i69 := by kernel_rfl
  g2 := by kernel_rfl
  g3 := by kernel_rfl }
end Go.Proofs
namespace Go.Proofs.YtenegcoapejbmaaGreatDoor
open Go.RowKit
/-- the library's two tables of unicode/utf8 -/
def TabsV (w : World) : Prop := Lib.Utf8Tabs 4 5 w
theorem cell_lt' {w : World} {g o : Nat} {v : Value} (h : w.cell? ⟨g, o, none⟩ = some v) : g < w.heap.size := by
  rcases Nat.lt_or_ge g w.heap.size with h1 | h1
  · exact h1
  · unfold World.cell? at h
    rw [Array.getElem?_eq_none h1] at h
    simp at h
theorem tabsV_below {w w' : World} (h : TabsV w) (hb : Below w.heap.size w w') : TabsV w' := by
  refine ⟨fun c hc => ?_, fun i hi => ?_⟩
  · have := h.1 c hc
    rw [hb.cell (p := ⟨_, c, none⟩) (cell_lt' this)]; exact this
  · obtain ⟨h1, h2⟩ := h.2 i hi
    exact ⟨by rw [hb.cell (p := ⟨_, 2 * i, none⟩) (cell_lt' h1)]; exact h1, by rw [hb.cell (p := ⟨_, 2 * i + 1, none⟩) (cell_lt' h2)]; exact h2⟩
/-- what is decoded where no ASCII byte stands -/
theorem dec_spec (l : List UInt8) (h0 : 0 < l.length) (h128 : 128 ≤ (l[0]).toNat) : ∃ R K : Nat, Lib.decodeGo ⟨l.toArray⟩ = (R, K) ∧ 1 ≤ K ∧ K ≤ l.length ∧ K ≤ 4 ∧ 128 ≤ R ∧ R ≤ 1114111 ∧ (∀ j (h : j < l.length), j < K → 128 ≤ (l[j]).toNat) ∧
    (R = 65533 ∨ (Utf8.valid R = true ∧ 2 ≤ K ∧ (Utf8.encode R).size = K)) := by
  have hsz : (⟨l.toArray⟩ : ByteArray).size = l.length := size_l l
  have hd : Lib.decodeGo ⟨l.toArray⟩ = Lib.decodeN l.length ((⟨l.toArray⟩ : ByteArray).get! 0).toNat ((⟨l.toArray⟩ : ByteArray).get! 1).toNat ((⟨l.toArray⟩ : ByteArray).get! 2).toNat ((⟨l.toArray⟩ : ByteArray).get! 3).toNat := by
    unfold Lib.decodeGo
    rw [if_neg (by rw [hsz]; omega), Lib.decode_at, hsz]
    simp
  have hg : ∀ j (h : j < l.length), ((⟨l.toArray⟩ : ByteArray).get! j) = l[j] := by
    intro j h
    show l.toArray[j]! = l[j]
    rw [getElem!_pos l.toArray j (by simpa using h)]
    simp
  have h0' := hg 0 h0
  have v1 : ∀ R : Nat, 128 ≤ R → R ≤ 1114111 → (R < 55296 ∨ 57344 ≤ R) → Utf8.valid R = true := by
    intro R a b c
    unfold Utf8.valid
    simp
    omega
  have e1 : ∀ R : Nat, Utf8.valid R = true → 128 ≤ R → (Utf8.encode R).size = if R < 2048 then 2 else if R < 65536 then 3 else 4 := by
    intro R hv ha
    unfold Utf8.encode
    simp only [hv, if_true, Int.toNat_natCast]
    rw [if_neg (by omega)]
    split
    · rfl
    · split <;> rfl
  rcases Lib.decodeN_shape l.length ((⟨l.toArray⟩ : ByteArray).get! 0).toNat ((⟨l.toArray⟩ : ByteArray).get! 1).toNat ((⟨l.toArray⟩ : ByteArray).get! 2).toNat ((⟨l.toArray⟩ : ByteArray).get! 3).toNat with ⟨c, e⟩ | ⟨c1, c2, c3, cv, e⟩ | ⟨c1, c2, c3, c4, cv, cs, e⟩ | ⟨c1, c2, c3, c4, c5, cv, cw, e⟩ | e
  · exfalso; rw [h0'] at c; omega
  · rw [hg 1 c2] at c3
    have hv := v1 _ cv (by omega) (by omega)
    refine ⟨_, 2, hd.trans e, by omega, by omega, by omega, cv, by omega, ?_, Or.inr ⟨hv, by omega, ?_⟩⟩
    · intro j hj hk
      match j, hk with
      | 0, _ => exact h128
      | 1, _ => omega
    · rw [e1 _ hv cv, if_pos (by omega)]
  · rw [hg 1 (by omega)] at c3
    rw [hg 2 c2] at c4
    have hv := v1 _ (by omega) (by omega) cs
    refine ⟨_, 3, hd.trans e, by omega, by omega, by omega, by omega, by omega, ?_, Or.inr ⟨hv, by omega, ?_⟩⟩
    · intro j hj hk
      match j, hk with
      | 0, _ => exact h128
      | 1, _ => omega
      | 2, _ => omega
    · rw [e1 _ hv (by omega), if_neg (by omega), if_pos (by omega)]
  · rw [hg 1 (by omega)] at c3
    rw [hg 2 (by omega)] at c4
    rw [hg 3 c2] at c5
    have hv := v1 _ (by omega) cw (by omega)
    refine ⟨_, 4, hd.trans e, by omega, by omega, by omega, by omega, cw, ?_, Or.inr ⟨hv, by omega, ?_⟩⟩
    · intro j hj hk
      match j, hk with
      | 0, _ => exact h128
      | 1, _ => omega
      | 2, _ => omega
      | 3, _ => omega
    · rw [e1 _ hv (by omega), if_neg (by omega), if_neg (by omega)]
  · refine ⟨65533, 1, hd.trans e, by omega, by omega, by omega, by omega, by omega, ?_, Or.inl rfl⟩
    intro j hj hk
    match j, hk with
    | 0, _ => exact h128
/-- the search of one byte among a line's two last -/
theorem ibs (c : UInt8) (w : World) : ∃ r : Int, (callFunc 100 #[.string ⟨#[13, 10]⟩, .int .u8 (c.toNat : Int)]).run Tryz.prog w = .ok (.value (.int .i64 r)) w ∧ (isEnd c = true → 0 ≤ r) ∧ (isEnd c = false → r < 0) := by
  have h : (callFunc 100 #[.string ⟨#[13, 10]⟩, .int .u8 (c.toNat : Int)]).run Tryz.prog w = .ok (.value (.int .i64 (Lib.indexByte [13, 10] ((c.toNat : Int).toNat.toUInt8)))) w := by
    rw [run_callFunc_extern Tryz.func100 (by kernel_rfl) (by kernel_rfl) (by kernel_rfl) (e := Extern.BytealgIndexByte.indexByte) (by kernel_rfl), Lib.run_indexByteString]
    rfl
  refine ⟨_, h, ?_, ?_⟩
  · intro he
    have hb : ((c.toNat : Int)).toNat.toUInt8 = c := by simp
    rw [hb]
    unfold isEnd at he
    rcases of_decide_eq_true he with rfl | rfl <;> decide
  · intro he
    have hb : ((c.toNat : Int)).toNat.toUInt8 = c := by simp
    rw [hb]
    unfold isEnd at he
    have he := of_decide_eq_false he
    have h1 : ¬ 13 = c := fun e => he (.inl e.symm)
    have h2 : ¬ 10 = c := fun e => he (.inr e.symm)
    have : Lib.indexByte [13, 10] c = -1 := by simp [Lib.indexByte, h1, h2]
    rw [this]; decide
theorem enc_ne' (E : ByteArray) (h1 : 2 ≤ E.size) (h3 : ∀ h : E.size - 1 < E.size, 128 ≤ (E[E.size - 1]'h).toNat) : ¬ E.data.toList = [13, 10] := by
  intro e
  have h4 := h3 (by omega)
  have he : E = ⟨#[13, 10]⟩ := by cases E; simp at e; simp [← e]
  have key : ∀ b : ByteArray, b = ⟨#[13, 10]⟩ → ∀ h : b.size - 1 < b.size, (b[b.size - 1]'h).toNat = 10 := by
    rintro _ rfl h; rfl
  rw [key _ he] at h4
  omega
/-- the search of a text of two bytes or more, other than they are, among a line's two last bytes -/
theorem iss (E : ByteArray) (w : World) (m : Int) (hm : w.cell? ⟨0, 0, none⟩ = some (.int .i64 m)) (h1 : 2 ≤ E.size) (hne : ¬ E.data.toList = [13, 10]) (hK : (E.size : Int) ≤ m) :
    (callFunc 106 #[.string ⟨#[13, 10]⟩, .string E]).run Tryz.prog w = .ok (.value (.int .i64 (-1))) w := by
  have hi : Lib.index [13, 10] E.data.toList = -1 := by
    refine Lib.index_long ?_ hne
    have : E.data.toList.length = E.size := by simp
    rw [this]; exact h1
  rw [run_callFunc_extern Tryz.func106 (by kernel_rfl) (by kernel_rfl) (by kernel_rfl) (e := Extern.BytealgIndex.index) (by kernel_rfl), Lib.run_indexString ⟨#[13, 10]⟩ E w 0 m (by kernel_rfl) hm h1 hK (by show 2 < 4294967281; omega)]
  rw [show (⟨#[13, 10]⟩ : ByteArray).data.toList = [13, 10] from rfl, hi]
  rfl
end Go.Proofs.YtenegcoapejbmaaGreatDoor
namespace Go.Proofs.YtenegcoapejbmaaGreatDoor
open Go.RowKit
set_option maxHeartbeats 400000 in
theorem shouldB (n : Int) (w : World) :
    Calls Tryz.prog 102 #[.int .i64 n] w fun e w' => e = .returned (.bool (decide (8 < n))) ∧ w' = w := by
  go_enter Tryz.func102, Tryz.ntmps102
  go_wp2
  go_ret
  exact ⟨rfl, rfl⟩
theorem end_big {c : UInt8} (h : 128 ≤ c.toNat) : isEnd c = false := by
  unfold isEnd
  simp
  constructor
  · rintro rfl; exact absurd h (by decide)
  · rintro rfl; exact absurd h (by decide)
theorem any_more (l : List UInt8) (i : Nat) (K : Nat) (hk : i + K ≤ l.length) (ha : (l.take i).any isEnd = false) (hb : ∀ j (h : i + j < l.length), j < K → 128 ≤ (l[i + j]).toNat) : (l.take (i + K)).any isEnd = false := by
  induction K with
  | zero => exact ha
  | succ K ih =>
    have h1 := ih (by omega) (fun j h hj => hb j h (by omega))
    rw [show i + (K + 1) = (i + K) + 1 by omega, List.take_succ_eq_append_getElem (by omega), List.any_append, h1]
    simp [end_big (hb K (by omega) (by omega))]
theorem any_next (l : List UInt8) (i : Nat) (hi : i < l.length) (ha : (l.take i).any isEnd = false) (hc : isEnd l[i] = false) : (l.take (i + 1)).any isEnd = false := by
  rw [List.take_succ_eq_append_getElem hi, List.any_append, ha]
  simp [hc]
theorem any_hit (l : List UInt8) (i : Nat) (hi : i < l.length) (hc : isEnd l[i] = true) : l.any isEnd = true := List.any_eq_true.2 ⟨l[i], List.getElem_mem hi, hc⟩
theorem from_at (b off n cap i : Nat) (hi : i < n) (hc : n ≤ cap) (w : World) : Sem.run Tryz.prog (Instr.slice 22 (.slice (some ⟨b, off, none⟩) n cap) (some (.int .i64 i)) none none) w = .ok (.slice (some ⟨b, off + i, none⟩) (n - i) (cap - i)) w := by
  have he : Tryz.prog.elem 22 = 5 := by kernel_rfl
  have h := run_slice_l (P := Tryz.prog) w 22 (some ⟨b, off, none⟩) n cap (by rw [he]; exact Tryz.underlying22) .i64 i (by omega) (by omega)
  rw [he, Tryz.sizeOf5] at h
  simp only [Result.andThen, Int.toNat_natCast, sliced] at h
  rw [h]
  have : ¬ cap = i := by omega
  simp [Addr.add, this]
theorem iter_below (w : World) (s : ByteArray) (pos : Nat) : Below w.heap.size w (w.iter s pos) := (Below.refl _ _).alloc (Nat.le_refl _) _
theorem next0 (w : World) (ty : TypeId) : (Instr.next (.pointer (some ⟨w.heap.size, 0, none⟩)) true ty).run Tryz.prog (w.iter ⟨#[13, 10]⟩ 0) = .ok (.tuple #[.bool true, .int .i64 0, .int .i32 13]) (w.iter ⟨#[13, 10]⟩ 1) := run_next_ascii w ⟨#[13, 10]⟩ 0 ty (by decide) (by decide)
theorem next1 (w : World) (ty : TypeId) : (Instr.next (.pointer (some ⟨w.heap.size, 0, none⟩)) true ty).run Tryz.prog (w.iter ⟨#[13, 10]⟩ 1) = .ok (.tuple #[.bool true, .int .i64 1, .int .i32 10]) (w.iter ⟨#[13, 10]⟩ 2) := run_next_ascii w ⟨#[13, 10]⟩ 1 ty (by decide) (by decide)
theorem next2 (w : World) (ty : TypeId) : (Instr.next (.pointer (some ⟨w.heap.size, 0, none⟩)) true ty).run Tryz.prog (w.iter ⟨#[13, 10]⟩ 2) = .ok (.tuple #[.bool false]) (w.iter ⟨#[13, 10]⟩ 2) := run_next_end w ⟨#[13, 10]⟩ 2 ty (by decide)
set_option maxRecDepth 20000 in
set_option maxHeartbeats 1000000 in
theorem idxB8 (line : List UInt8) (ao : Option Addr) (cap : Nat) (W : World) (h : HoldsB W (.slice ao line.length cap) line) (M : MaxV W) (T : TabsV W) (h2 : 2 ≤ line.length) (h8 : line.length ≤ 8) :
    Calls Tryz.prog 81 #[.slice ao line.length cap, .string ⟨#[13, 10]⟩] W fun e w' => ∃ r : Int, e = .returned (.int .i64 r) ∧ Hid (decide (0 ≤ r) = line.any isEnd) ∧ Below W.heap.size W w' := by
  obtain ⟨ao', cap', e, h0, hcp, hc⟩ := h
  simp only [Value.slice.injEq] at e
  obtain ⟨rfl, _, rfl⟩ := e
  obtain ⟨b, off, rfl, hblt, hcell⟩ := hc (fun e => by rw [e] at h2; simp at h2)
  have C := hide' hcell
  have MV := hide' M
  have TV := hide' T
  clear hc hcell M T h0
  obtain ⟨n, en⟩ : ∃ n, n = line.length := ⟨_, rfl⟩
  have N : Hid (line.length = n) := en.symm
  rw [N.out] at h2 h8 hcp ⊢
  clear en
  have h8' : decide ((8 : Int) < (n : Int)) = false := decide_eq_false (by omega)
  have n1 : ((n : Int) == 1) = false := by simp; omega
  go_enter Tryz.func81, Tryz.ntmps81
  go_wp2_with (go_at_call 102; refine (shouldB _ _).mono ?_; rintro e w' ⟨rfl, hw⟩; rw [hw]; clear hw)
  clear h8' n1
  go_loopw [12] (fun iv wr => ∃ i : Nat, i ≤ n ∧ iv = .int .i64 i ∧ Hid ((line.take i).any isEnd = false) ∧ Hid (Below W.heap.size W wr)) (fun iv _ => n - (intOf iv).toNat)
  case atStart => exact ⟨0, Nat.zero_le _, rfl, by unfold Hid; simp, Below.refl _ _⟩
  case round =>
    obtain ⟨i, hi, rfl, HA, HB⟩ := hrel
    by_cases hlt : i < n
    · have G : Hid (i < line.length) := by unfold Hid; rw [N.out]; exact hlt
      have ck : wr.cell? ⟨b, off + i, none⟩ = some (.int .u8 ((line[i]'G.out).toNat : Int)) := by
        rw [HB.out.cell (p := ⟨b, off + i, none⟩) hblt]; exact C.out i G.out
      have hbt := byte_lt (line[i]'G.out)
      by_cases ha : (line[i]'G.out).toNat < 128
      · obtain ⟨r, hr, hr1, hr2⟩ := ibs (line[i]'G.out) wr
        have hai : ((line[i]'G.out).toNat : Int) < 128 := by omega
        cases he : isEnd (line[i]'G.out) with
        | true =>
          have A2 := hide' (any_hit line i G.out he)
          have hr0 := hr1 he
          clear hr1 hr2 he ha
          generalize (line[i]'G.out).toNat = cn at ck hr hai hbt
          go_wp2_with fail
          go_ret
          exact ⟨_, rfl, by unfold Hid; rw [A2.out]; simp, HB.out⟩
        | false =>
          have A2 := hide' (any_next line i G.out HA.out he)
          have hr0 := hr2 he
          clear hr1 hr2 he ha
          generalize (line[i]'G.out).toNat = cn at ck hr hai hbt
          go_wp2_with fail
          go_roundw
          case rel => exact ⟨i + 1, by omega, by go_num, A2, HB⟩
          case measure => simp [intOf]; omega
      · have hd0 : 0 < (line.drop i).length := by rw [List.length_drop]; have := G.out; omega
        have hge : 128 ≤ ((line.drop i)[0]'hd0).toNat := by simp; omega
        obtain ⟨R, K, hdec, hK1, hKn, hK4, hR1, hR2, hbig, hkind⟩ := dec_spec (line.drop i) hd0 hge
        have hKn' : i + K ≤ n := by rw [List.length_drop, N.out] at hKn; omega
        have A2 := hide' (any_more line i K (by rw [N.out]; exact hKn') HA.out (fun j hj hjk => by
          have := hbig j (by rw [List.length_drop]; omega) hjk
          simpa using this))
        have cD := Any7.utf8_DecodeRune Tryz.lays7_32 ⟨(line.drop i).toArray⟩ b (off + i) (cap - i) wr (tabsV_below TV.out HB.out) (fun j hj => by
          rw [size_l, List.length_drop] at hj
          have := C.out (i + j) (by omega)
          rw [Nat.add_assoc, HB.out.cell (p := ⟨b, off + (i + j), none⟩) hblt, this]
          have e1 : ((⟨(line.drop i).toArray⟩ : ByteArray).get! j) = line[i + j]'(by omega) := by
            show ((line.drop i).toArray)[j]! = _
            rw [getElem!_pos _ j (by simp; omega)]
            simp
          rw [e1]; rfl)
        rw [hdec, size_l, List.length_drop, N.out] at cD
        have CD := hide' cD
        have hsl := from_at b off n cap i hlt hcp wr
        have hai : ((128 : Int) ≤ ((line[i]'G.out).toNat : Int)) := by omega
        clear hdec hbig cD ha hge hd0 hKn
        generalize (line[i]'G.out).toNat = cn at ck hai hbt
        obtain ⟨m, hm⟩ := maxV_below MV.out HB.out
        go_wp2_with fail
        refine CD.out.mono ?_
        rintro e w2 ⟨rfl, b2⟩
        have B2 := hide' (bt' HB.out b2)
        have hm2 : w2.cell? ⟨0, 0, none⟩ = some (.int .i64 m) := by rw [b2.cell (p := ⟨0, 0, none⟩) (cell_lt hm)]; exact hm
        clear b2 CD hsl ck hm
        have hn0 := next0 w2
        have hn1 := next1 w2
        have hn2 := next2 w2
        rcases hkind with rfl | ⟨hv, hK2, hES⟩
        · clear hR1 hR2 hm2
          go_wp2_with fail
          go_rounds 3
          go_roundw
          case rel => exact ⟨i + K, by omega, by go_num, A2, bt' B2.out (iter_below w2 _ _)⟩
          case measure => simp [intOf]; omega
        · obtain ⟨f1, f2, f3⟩ := encode_facts R hv (by omega)
          have fne := enc_ne' _ f1 f3
          obtain ⟨E, hE⟩ : ∃ E, Utf8.encode (R : Int) = E := ⟨_, rfl⟩
          rw [hE] at f1 f2 fne hES
          clear f3 hv
          have r13 : ((R : Int) == 13) = false := by simp; omega
          have r10 : ((R : Int) == 10) = false := by simp; omega
          by_cases hRe : R = 65533
          · subst hRe
            clear hE r13 r10
            go_wp2_with fail
            go_rounds 3
            go_roundw
            case rel => exact ⟨i + K, by omega, by go_num, A2, bt' B2.out (iter_below w2 _ _)⟩
            case measure => simp [intOf]; omega
          · have hRn : ((R : Int) != 65533) = true := by simp; omega
            by_cases hk2 : K = 2
            · have k2 : ((2 : Int) == (K : Int)) = true := by simp; omega
              have e1 : ((⟨#[13, 10]⟩ : ByteArray).toList == E.toList) = false := by
                rw [Lib.toList_data, Lib.toList_data]; simp; exact fun e => fne e.symm
              have e2 : (([13, 10] : List UInt8) == E.toList) = false := by
                rw [Lib.toList_data]; simp; exact fun e => fne e.symm
              clear hk2 hRe
              go_wp2_with fail
              go_roundw
              case rel => exact ⟨i + K, by omega, by go_num, A2, B2⟩
              case measure => simp [intOf]; omega
            · have k2 : ((2 : Int) == (K : Int)) = false := by simp; omega
              clear hk2 hRe
              by_cases hmk : (K : Int) ≤ m
              · have hi1 := iss E w2 m hm2 f1 fne (by omega)
                go_wp2_with fail
                go_roundw
                case rel => exact ⟨i + K, by omega, by go_num, A2, B2⟩
                case measure => simp [intOf]; omega
              · have hm3 : m < (K : Int) := by omega
                have hm4 : decide ((K : Int) ≤ m) = false := decide_eq_false hmk
                clear hmk hE f1 f2 fne hES
                go_wp2_with fail
                go_rounds 3
                go_roundw
                case rel => exact ⟨i + K, by omega, by go_num, A2, bt' B2.out (iter_below w2 _ _)⟩
                case measure => simp [intOf]; omega
    · have E : Hid (line.take i = line) := List.take_of_length_le (by rw [N.out]; omega)
      rw [E.out] at HA
      go_wp2_with fail
      go_ret
      exact ⟨_, rfl, by unfold Hid; rw [HA.out]; simp, HB.out⟩
end Go.Proofs.YtenegcoapejbmaaGreatDoor
namespace Go.Proofs.YtenegcoapejbmaaGreatDoor
open Go.RowKit
/-- what bytes.IndexAny at a line's two last bytes says -/
def IdxB (line : List UInt8) (ao : Option Addr) (cap : Nat) (W : World) : Prop := Calls Tryz.prog 81 #[.slice ao line.length cap, .string ⟨#[13, 10]⟩] W fun e w' => ∃ r : Int, e = .returned (.int .i64 r) ∧ Hid (decide (0 ≤ r) = line.any isEnd) ∧ Below W.heap.size W w'
set_option maxRecDepth 20000 in
set_option maxHeartbeats 1000000 in
theorem idxB0 (ao : Option Addr) (cap : Nat) (W : World) : IdxB [] ao cap W := by
  unfold IdxB
  simp only [List.length_nil]
  go_enter Tryz.func81, Tryz.ntmps81
  go_wp2_with (go_at_call 102; refine (shouldB _ _).mono ?_; rintro e w' ⟨rfl, hw⟩; rw [hw]; clear hw)
  go_rounds 1
  go_ret
  exact ⟨_, rfl, rfl, Below.refl _ _⟩
set_option maxRecDepth 20000 in
set_option maxHeartbeats 1000000 in
theorem idxB1 (c : UInt8) (ao : Option Addr) (cap : Nat) (W : World) (h : HoldsB W (.slice ao 1 cap) [c]) : IdxB [c] ao cap W := by
  unfold IdxB
  simp only [List.length_cons, List.length_nil, Nat.zero_add]
  obtain ⟨ao', cap', e, h0, hcp, hc⟩ := h
  simp only [List.length_cons, List.length_nil, Nat.zero_add, Value.slice.injEq] at e
  obtain ⟨rfl, _, rfl⟩ := e
  obtain ⟨b, off, rfl, hblt, hcell⟩ := hc (by simp)
  have ck : W.cell? ⟨b, off, none⟩ = some (.int .u8 (c.toNat : Int)) := hcell 0 (by simp)
  have hbt := byte_lt c
  clear hc hcell h0
  by_cases ha : c.toNat < 128
  · obtain ⟨r, hr, hr1, hr2⟩ := ibs c W
    have hai : ((128 : Int) ≤ (c.toNat : Int)) = False := by simp; omega
    have hai2 : decide ((128 : Int) ≤ (c.toNat : Int)) = false := by simp; omega
    cases he : isEnd c with
    | true =>
      have hr0 := hr1 he
      have A2 : Hid (([c] : List UInt8).any isEnd = true) := by unfold Hid; simp [he]
      clear hr1 hr2 he ha
      go_enter Tryz.func81, Tryz.ntmps81
      go_wp2_with fail
      go_ret
      exact ⟨_, rfl, by unfold Hid; rw [A2.out]; rfl, Below.refl _ _⟩
    | false =>
      have hr0 := hr2 he
      have A2 : Hid (([c] : List UInt8).any isEnd = false) := by unfold Hid; simp [he]
      clear hr1 hr2 he ha
      go_enter Tryz.func81, Tryz.ntmps81
      go_wp2_with fail
      go_ret
      exact ⟨_, rfl, by unfold Hid; rw [A2.out]; rfl, Below.refl _ _⟩
  · have A2 : Hid (([c] : List UInt8).any isEnd = false) := by unfold Hid; simp [end_big (c := c) (by omega)]
    have hai : (128 : Int) ≤ (c.toNat : Int) := by omega
    have hn0 := next0 W
    have hn1 := next1 W
    have hn2 := next2 W
    clear ha
    go_enter Tryz.func81, Tryz.ntmps81
    go_wp2_with fail
    go_rounds 3
    go_ret
    exact ⟨_, rfl, by unfold Hid; rw [A2.out]; rfl, iter_below W _ _⟩
theorem set_ascii : ∀ (j : Nat) b, (⟨#[13, 10]⟩ : ByteArray).data.toList[j]? = some b → b.toNat < 128 := by
  intro j b h
  match j, h with
  | 0, h => simp at h; subst h; decide
  | 1, h => simp at h; subst h; decide
theorem set_is (c : UInt8) : ([13, 10] : List UInt8).contains c = isEnd c := by
  unfold isEnd
  rw [Bool.eq_iff_iff]
  simp
theorem set_info : (Tryz.prog.info? 119).map (fun i => (i.zero, i.size)) = some (some (.agg (Array.replicate 256 (.bool false))), 256) := by kernel_rfl
theorem makeSet (w : World) : Calls Tryz.prog 103 #[.string ⟨#[13, 10]⟩] w fun e w' => e = .returned (.tuple #[.agg (Lib.setCells [13, 10]), .bool true]) ∧ w' = w.alloc (.cells (Lib.setCells [13, 10]) 119) :=
  Any.bytes_makeASCIISet Tryz.laysV11 (zero_of_info set_info).1 (zero_of_info set_info).2 ⟨#[13, 10]⟩ w (by show 2 < 4294967281; omega) set_ascii
theorem setHas (b : Nat) (x : UInt8) (v : Bool) (w : World) (hc : w.cell? ⟨b, x.toNat, none⟩ = some (.bool v)) : Calls Tryz.prog 104 #[.pointer (some ⟨b, 0, none⟩), .int .u8 x.toNat] w fun e w' => e = .returned (.bool v) ∧ w' = w :=
  Any.bytes_asciiSet_contains Tryz.laysV16 b x v w hc
set_option maxRecDepth 1000000 in
set_option maxHeartbeats 2000000 in
theorem idxB9 (line : List UInt8) (ao : Option Addr) (cap : Nat) (W : World) (h : HoldsB W (.slice ao line.length cap) line) (h8 : 8 < line.length) (hs : line.length < 4294967281) : IdxB line ao cap W := by
  unfold IdxB
  obtain ⟨ao', cap', e, h0, hcp, hc⟩ := h
  simp only [Value.slice.injEq] at e
  obtain ⟨rfl, _, rfl⟩ := e
  obtain ⟨b, off, rfl, hblt, hcell⟩ := hc (fun e => by rw [e] at h8; simp at h8)
  have C := hide' hcell
  clear hc hcell h0
  obtain ⟨n, en⟩ : ∃ n, n = line.length := ⟨_, rfl⟩
  have N : Hid (line.length = n) := en.symm
  rw [N.out] at h8 hs hcp ⊢
  clear en
  have h8' : decide ((8 : Int) < (n : Int)) = true := decide_eq_true (by omega)
  have n1 : ((n : Int) == 1) = false := by simp; omega
  have hM := makeSet W
  have hsc : (storeCells ⟨W.heap.size + 1, 0, none⟩ (Lib.setCells [13, 10]).toList 0).run Tryz.prog ((W.alloc (.cells (Lib.setCells [13, 10]) 119)).alloc (.cells (Array.replicate 256 (.bool false)) 119)) = .ok () ((W.alloc (.cells (Lib.setCells [13, 10]) 119)).alloc (.cells (Lib.setCells [13, 10]) 119)) := by
    have := run_storeCells_new (P := Tryz.prog) (W.alloc (.cells (Lib.setCells [13, 10]) 119)) 119 (Array.replicate 256 (.bool false)) (Lib.setCells [13, 10]) (by rw [Lib.setCells_size]; exact (zero_of_info set_info).2) (by rw [Lib.setCells_size, Array.size_replicate]) (Lib.setCells_one _)
    simpa using this
  have hsz := Lib.setCells_size [13, 10]
  have hcellAt : ∀ x : UInt8, ((W.alloc (.cells (Lib.setCells [13, 10]) 119)).alloc (.cells (Lib.setCells [13, 10]) 119)).cell? ⟨W.heap.size + 1, x.toNat, none⟩ = some (.bool (isEnd x)) := fun x => by
    rw [World.cell?_alloc_at _ _ _ _ (by simp), Lib.setCells_at, set_is]
  have HC := hide' hcellAt
  have BW : Hid (Below W.heap.size W ((W.alloc (.cells (Lib.setCells [13, 10]) 119)).alloc (.cells (Lib.setCells [13, 10]) 119))) := ((Below.refl _ _).alloc (Nat.le_refl _) _).alloc (by simp) _
  clear hcellAt
  have v85 := (zero_of_info set_info).1
  go_enter Tryz.func81, Tryz.ntmps81
  go_wp2_with (first
    | (go_at_call 102; refine (shouldB _ _).mono ?_; rintro e w' ⟨rfl, hw⟩; rw [hw]; clear hw)
    | (go_at_call 103; refine hM.mono ?_; rintro e w' ⟨rfl, hw⟩; rw [hw]; clear hw))
  clear hM hsc h8' n1
  generalize (W.alloc (.cells (Lib.setCells [13, 10]) 119)).alloc (.cells (Lib.setCells [13, 10]) 119) = w1 at HC BW ⊢
  clear hsz v85
  go_loop [62] (fun iv => ∃ i : Nat, i ≤ n ∧ iv = .int .i64 i ∧ Hid ((line.take i).any isEnd = false)) (fun iv => n - (intOf iv).toNat)
  case atStart => exact ⟨0, Nat.zero_le _, rfl, by unfold Hid; simp⟩
  case round =>
    obtain ⟨i, hi, rfl, HA⟩ := hrel
    by_cases hlt : i < n
    · have G : Hid (i < line.length) := by unfold Hid; rw [N.out]; exact hlt
      have ck : w1.cell? ⟨b, off + i, none⟩ = some (.int .u8 ((line[i]'G.out).toNat : Int)) := by
        rw [BW.out.cell (p := ⟨b, off + i, none⟩) hblt]; exact C.out i G.out
      have hbt := byte_lt (line[i]'G.out)
      have cH := setHas (W.heap.size + 1) (line[i]'G.out) _ w1 (HC.out _)
      cases he : isEnd (line[i]'G.out) with
      | true =>
        have A2 := hide' (any_hit line i G.out he)
        rw [he] at cH
        have CH := hide' cH
        clear he cH
        generalize (line[i]'G.out).toNat = cn at ck CH hbt
        go_wp2_with (go_at_call 104; refine CH.out.mono ?_; rintro e w' ⟨rfl, hw⟩; rw [hw]; clear hw)
        go_ret
        exact ⟨_, rfl, by unfold Hid; rw [A2.out]; simp, BW.out⟩
      | false =>
        have A2 := hide' (any_next line i G.out HA.out he)
        rw [he] at cH
        have CH := hide' cH
        clear he cH
        generalize (line[i]'G.out).toNat = cn at ck CH hbt
        go_wp2_with (go_at_call 104; refine CH.out.mono ?_; rintro e w' ⟨rfl, hw⟩; rw [hw]; clear hw)
        go_round
        case rel => exact ⟨i + 1, by omega, by go_num, A2⟩
        case measure => simp [intOf]; omega
    · have E : Hid (line.take i = line) := List.take_of_length_le (by rw [N.out]; omega)
      rw [E.out] at HA
      go_wp2_with fail
      go_ret
      exact ⟨_, rfl, by unfold Hid; rw [HA.out]; simp, BW.out⟩
theorem idxB (line : List UInt8) (ao : Option Addr) (cap : Nat) (W : World) (h : HoldsB W (.slice ao line.length cap) line) (M : MaxV W) (T : TabsV W) (hs : line.length < 4294967281) : IdxB line ao cap W := by
  by_cases h8 : 8 < line.length
  · exact idxB9 line ao cap W h h8 hs
  · by_cases h2 : 2 ≤ line.length
    · exact idxB8 line ao cap W h M T h2 (by omega)
    · cases line with
      | nil => exact idxB0 ao cap W
      | cons c r =>
        cases r with
        | nil => exact idxB1 c ao cap W h
        | cons d r => exact absurd (by simp) h2
set_option maxRecDepth 20000 in
set_option maxHeartbeats 1000000 in
theorem containsAny (line : List UInt8) (ao : Option Addr) (cap : Nat) (W : World) (h : HoldsB W (.slice ao line.length cap) line) (M : MaxV W) (T : TabsV W) (hs : line.length < 4294967281) : CaC line ao cap W := by
  have c := hide' (idxB line ao cap W h M T hs)
  unfold IdxB at c
  unfold CaC
  clear h M T
  generalize line.any isEnd = b at c ⊢
  go_enter Tryz.func64, Tryz.ntmps64
  go_wp2_with fail
  refine c.out.mono ?_
  rintro e w1 ⟨r, rfl, hr, b1⟩
  have B1 := hide' b1
  clear b1 c
  go_wp2_with fail
  go_ret
  rw [← hr.out]
  exact ⟨rfl, B1.out⟩
end Go.Proofs.YtenegcoapejbmaaGreatDoor
namespace Go.Proofs.YtenegcoapejbmaaGreatDoor
open Go.RowKit
def setIter (w : World) (g : Nat) (s : ByteArray) (pos : Nat) : World := { w with heap := w.heap.setIfInBounds g (.stringIter s pos) }
theorem run_next_at (w : World) (g : Nat) (s : ByteArray) (pos : Nat) (ty : TypeId) (hg : w.heap[g]? = some (.stringIter s pos)) (h : pos < s.size) :
    (Instr.next (.pointer (some ⟨g, 0, none⟩)) true ty).run Tryz.prog w = .ok (.tuple #[.bool true, .int .i64 pos, .int .i32 (Utf8.decode s pos).1]) (setIter w g s (pos + (Utf8.decode s pos).2)) := by
  simp [Instr.next, getObj, setObj, Sem.run, hg, Result.andThen, h, goInt, setIter]
theorem run_next_over (w : World) (g : Nat) (s : ByteArray) (pos : Nat) (ty : TypeId) (hg : w.heap[g]? = some (.stringIter s pos)) (h : ¬ pos < s.size) :
    (Instr.next (.pointer (some ⟨g, 0, none⟩)) true ty).run Tryz.prog w = .ok (.tuple #[.bool false]) w := by
  simp [Instr.next, getObj, Sem.run, hg, h]
theorem iter_at {w : World} {g : Nat} {s : ByteArray} {pos : Nat} (hg : w.heap[g]? = some (.stringIter s pos)) (p : Nat) : (setIter w g s p).heap[g]? = some (.stringIter s p) := by
  have : g < w.heap.size := (Array.getElem?_eq_some_iff.1 hg).1
  simp [setIter, this]
theorem iter_keeps {W w : World} {g : Nat} {s : ByteArray} {p : Nat} (hb : Below W.heap.size W w) (hg : W.heap.size ≤ g) : Below W.heap.size W (setIter w g s p) :=
  hb.trans ⟨rfl, rfl, rfl, by simp [setIter], fun k hk => by
    simp only [setIter]
    rw [Array.getElem?_setIfInBounds_ne (by omega)]⟩
theorem iter_stays {w w' : World} {g : Nat} {s : ByteArray} {pos : Nat} (hg : w.heap[g]? = some (.stringIter s pos)) (hb : Below w.heap.size w w') : w'.heap[g]? = some (.stringIter s pos) := by
  have : g < w.heap.size := (Array.getElem?_eq_some_iff.1 hg).1
  rw [hb.block g this]; exact hg
theorem dec_at (s : ByteArray) (i : Nat) (hi : i < s.size) (h128 : 128 ≤ (s[i]).toNat) : ∃ R K : Nat, Utf8.decode s i = (R, K) ∧ 1 ≤ K ∧ i + K ≤ s.size ∧ 128 ≤ R ∧ R ≤ 1114111 ∧ (R = 65533 ∨ Utf8.valid R = true) := by
  have hl : (s.data.toList.drop i).length = s.size - i := by simp
  have hg : ∀ j, (⟨(s.data.toList.drop i).toArray⟩ : ByteArray).get! j = s.get! (i + j) := by
    intro j
    show ((s.data.toList.drop i).toArray)[j]! = s.data[i + j]!
    by_cases h : i + j < s.size
    · rw [getElem!_pos _ j (by simp; omega), getElem!_pos s.data (i + j) h]
      simp
    · rw [getElem!_neg _ j (by simp; omega), getElem!_neg s.data (i + j) h]
  have h0 : 0 < (s.data.toList.drop i).length := by omega
  have e0 : (s.data.toList.drop i)[0]'h0 = s[i] := by simp; rfl
  obtain ⟨R, K, hd, k1, k2, _, r1, r2, _, hk⟩ := dec_spec (s.data.toList.drop i) h0 (by rw [e0]; exact h128)
  have he : Utf8.decode s i = Lib.decodeGo ⟨(s.data.toList.drop i).toArray⟩ := by
    unfold Lib.decodeGo
    have hz := size_l (s.data.toList.drop i)
    rw [hl] at hz
    rw [if_neg (by omega), Lib.decode_at, Lib.decode_at, hg 0, hg (0 + 1), hg (0 + 2), hg (0 + 3), hz]
    simp
  exact ⟨R, K, he.trans hd, k1, by omega, r1, r2, hk.imp id (fun h => h.1)⟩
theorem nextA (w : World) (ty : TypeId) : (Instr.next (.pointer (some ⟨w.heap.size, 0, none⟩)) true ty).run Tryz.prog (w.iter ⟨#[32, 9]⟩ 0) = .ok (.tuple #[.bool true, .int .i64 0, .int .i32 32]) (w.iter ⟨#[32, 9]⟩ 1) := run_next_ascii w ⟨#[32, 9]⟩ 0 ty (by decide) (by decide)
theorem nextB (w : World) (ty : TypeId) : (Instr.next (.pointer (some ⟨w.heap.size, 0, none⟩)) true ty).run Tryz.prog (w.iter ⟨#[32, 9]⟩ 1) = .ok (.tuple #[.bool true, .int .i64 1, .int .i32 9]) (w.iter ⟨#[32, 9]⟩ 2) := run_next_ascii w ⟨#[32, 9]⟩ 1 ty (by decide) (by decide)
theorem nextC (w : World) (ty : TypeId) : (Instr.next (.pointer (some ⟨w.heap.size, 0, none⟩)) true ty).run Tryz.prog (w.iter ⟨#[32, 9]⟩ 2) = .ok (.tuple #[.bool false]) (w.iter ⟨#[32, 9]⟩ 2) := run_next_end w ⟨#[32, 9]⟩ 2 ty (by decide)
theorem validR (R : Int) (w : World) (h1 : 128 ≤ R) (hv : Utf8.valid R = true) :
    Calls Tryz.prog 126 #[.int .i32 R] w fun e w' => e = .returned (.bool true) ∧ w' = w := by
  refine (Any.utf8_ValidRune { Tryz.lays153 with } R w).mono ?_
  rintro e w' ⟨rfl, hw⟩
  refine ⟨?_, hw⟩
  have : Lib.validRune R = true := by
    unfold Utf8.valid at hv
    unfold Lib.validRune
    simp at hv ⊢
    omega
  rw [this]
theorem form2 (E : ByteArray) (h : E.size = 2) (h3 : ∀ h : E.size - 1 < E.size, 128 ≤ (E[E.size - 1]'h).toNat) : ∃ x y : UInt8, E = ⟨#[x, y]⟩ ∧ 128 ≤ y.toNat := by
  obtain ⟨d⟩ := E
  obtain ⟨l⟩ := d
  match l, h with
  | [x, y], _ => exact ⟨x, y, rfl, h3 (by show 1 < 2; omega)⟩
theorem form3 (E : ByteArray) (h : E.size = 3) : ∃ x y z : UInt8, E = ⟨#[x, y, z]⟩ := by
  obtain ⟨d⟩ := E
  obtain ⟨l⟩ := d
  match l, h with
  | [x, y, z], _ => exact ⟨x, y, z, rfl⟩
theorem form4 (E : ByteArray) (h : E.size = 4) : ∃ x y z u : UInt8, E = ⟨#[x, y, z, u]⟩ := by
  obtain ⟨d⟩ := E
  obtain ⟨l⟩ := d
  match l, h with
  | [x, y, z, u], _ => exact ⟨x, y, z, u, rfl⟩
theorem ibNone (c : Int) (w : World) : Calls Tryz.prog 129 #[.string ⟨#[]⟩, .int .u8 c] w fun e w' => e = .returned (.int .i64 (-1)) ∧ w' = w := by
  refine (Any.strings_IndexByte Tryz.lays137 ⟨#[]⟩ c w).mono ?_
  rintro e w' ⟨rfl, hw⟩
  exact ⟨rfl, hw⟩
theorem wrap2 : IntKind.i64.wrap 2 = 2 := by decide
theorem rest2 (W : World) : Sem.run Tryz.prog (Instr.slice 9 (.string ⟨#[32, 9]⟩) (some (.int .i64 2)) none none) W = .ok (.string ⟨#[]⟩) W := by kernel_rfl
set_option maxRecDepth 20000 in
set_option maxHeartbeats 400000 in
theorem idxRune (R : Int) (w : World) (h1 : 128 ≤ R) (hk : R = 65533 ∨ Utf8.valid R = true) :
    Calls Tryz.prog 107 #[.string ⟨#[32, 9]⟩, .int .i32 R] w fun e w' => e = .returned (.int .i64 (-1)) ∧ Below w.heap.size w w' := by
  by_cases hRe : R = 65533
  · subst hRe
    have hn0 := nextA w
    have hn1 := nextB w
    have hn2 := nextC w
    clear h1 hk
    go_enter Tryz.func107, Tryz.ntmps107
    go_wp2_with fail
    go_rounds 3
    go_ret
    exact ⟨rfl, iter_below w _ _⟩
  · have hv := hk.resolve_left hRe
    have cV := hide' (validR R w h1 hv)
    obtain ⟨f1, f2, f3⟩ := encode_facts R hv h1
    have r1 : (0 : Int) ≤ R := by omega
    have r3 : (R == 65533) = false := by simpa using hRe
    have hE : ∃ E, Utf8.encode R = E := ⟨_, rfl⟩
    obtain ⟨E, hE⟩ := hE
    rw [hE] at f1 f2
    simp only [hE] at f3
    clear hk hv hRe
    rcases (by omega : E.size = 2 ∨ E.size = 3 ∨ E.size = 4) with hs | hs | hs
    · obtain ⟨x, y, rfl, hy⟩ := form2 E hs f3
      have hyb := byte_lt y
      have yn : ((9 : Int) != (y.toNat : Int)) = true := by simp; omega
      have yn2 : ((((⟨#[32, 9]⟩ : ByteArray)[1]'(show 1 < 2 by omega)).toNat : Int) != (((⟨#[x, y]⟩ : ByteArray)[1]'(show 1 < 2 by omega)).toNat : Int)) = true := yn
      clear f1 f2 f3 hs
      go_enter Tryz.func107, Tryz.ntmps107
      go_wp2_with (go_at_call 126; refine cV.out.mono ?_; rintro e w' ⟨rfl, hw⟩; rw [hw]; clear hw)
      go_step3
      go_wp2_with fail
      refine wp_loop_rounds 1 ?_
      rw [rounds_succ]
      go_wp2_with fail
      go_step3
      go_wp2_with fail
      go_quiet (fail)
      go_wp2_with fail
      have hw2 := wrap2
      have hr2 := rest2
      have B9 := hide' (below_drewN w nq)
      generalize w.drewN nq = w9 at B9 ⊢
      go_quiet ((go_at_call 129; refine Calls.quiet_of_same (v := .int .i64 (-1)) ?_; exact ibNone _ _))
      go_wp2_with fail
      dsimp only [Exit.noGoto, Exit.inBlock, Exit.then]
      go_ret
      exact ⟨rfl, below_drawn B9.out _⟩
    · obtain ⟨x, y, z, rfl⟩ := form3 E hs
      clear f1 f2 f3 hs
      go_enter Tryz.func107, Tryz.ntmps107
      go_wp2_with (go_at_call 126; refine cV.out.mono ?_; rintro e w' ⟨rfl, hw⟩; rw [hw]; clear hw)
      go_step3
      go_wp2_with fail
      go_rounds 1
      try rw [Exit.noGoto_ret]
      go_ret
      exact ⟨rfl, Below.refl _ _⟩
    · obtain ⟨x, y, z, u, rfl⟩ := form4 E hs
      clear f1 f2 f3 hs
      go_enter Tryz.func107, Tryz.ntmps107
      go_wp2_with (go_at_call 126; refine cV.out.mono ?_; rintro e w' ⟨rfl, hw⟩; rw [hw]; clear hw)
      go_step3
      go_wp2_with fail
      go_rounds 1
      try rw [Exit.noGoto_ret]
      go_ret
      exact ⟨rfl, Below.refl _ _⟩
theorem idx_first (l : List UInt8) : (Lib.indexAny l [32, 9] == 0) = blankFirst l := by
  cases l with
  | nil => rfl
  | cons c r =>
    have hb := blank_is c
    have e : blankFirst (c :: r) = blankI (c.toNat : Int) := rfl
    rw [e]
    unfold Lib.indexAny
    rw [hb]
    have hge := Lib.indexAny_ge [32, 9] r
    cases h : blankI (c.toNat : Int) with
    | true => rfl
    | false =>
      simp only [Bool.false_eq_true, if_false]
      split
      · rfl
      · rename_i h2
        have h2 : ¬ Lib.indexAny r [32, 9] = -1 := by simpa using h2
        have h3 : ¬ Lib.indexAny r [32, 9] + 1 = 0 := by omega
        simpa using h3
theorem two_ascii : ∀ (j : Nat) b, (⟨#[32, 9]⟩ : ByteArray).data.toList[j]? = some b → b.toNat < 128 := by
  intro j b h
  match j, h with
  | 0, h => simp at h; subst h; decide
  | 1, h => simp at h; subst h; decide
theorem sset_info : (Tryz.prog.info? 125).map (fun i => (i.zero, i.size)) = some (some (.agg (Array.replicate 256 (.bool false))), 256) := by kernel_rfl
theorem idxC9 (s : ByteArray) (W : World) (h8 : 8 < s.size) (hs : s.size < 4294967281) : IdxC s W := by
  refine (Any.strings_IndexAny_long Tryz.lays153 (zero_of_info sset_info).1 (zero_of_info sset_info).2 s ⟨#[32, 9]⟩ W (by show 2 ≤ 2; omega) h8 hs (by show 2 < 4294967281; omega) two_ascii).mono ?_
  rintro e w' ⟨rfl, rfl⟩
  exact ⟨_, rfl, idx_first s.data.toList, ((Below.refl _ _).alloc (Nat.le_refl _) _).alloc (by simp) _⟩
theorem blank_at (s : ByteArray) (h : 0 < s.size) : blankFirst s.data.toList = blankI ((s[0]).toNat : Int) := by
  have : s.data.toList = s[0] :: s.data.toList.drop 1 := by
    have := List.drop_eq_getElem_cons (l := s.data.toList) (i := 0) (by simpa using h)
    rw [List.drop_zero] at this
    exact this
  rw [this]; rfl
theorem idxRuneA (c : UInt8) (w : World) (h : c.toNat < 128) : ∃ r : Int, Calls Tryz.prog 107 #[.string ⟨#[32, 9]⟩, .int .i32 (c.toNat : Int)] w (fun e w' => e = .returned (.int .i64 r) ∧ w' = w) ∧ (blankI (c.toNat : Int) = true → 0 ≤ r) ∧ (blankI (c.toNat : Int) = false → r < 0) := by
  have hc := Any.strings_IndexRune_ascii { Tryz.lays153 with } ⟨#[32, 9]⟩ (c.toNat : Int) w (by omega) (by omega)
  have hb : ((c.toNat : Int)).toNat.toUInt8 = c := by simp
  rw [hb] at hc
  refine ⟨_, hc, ?_, ?_⟩
  · intro he
    rw [← blank_is] at he
    have he : c = 32 ∨ c = 9 := by simpa using he
    rcases he with rfl | rfl <;> decide
  · intro he
    rw [← blank_is] at he
    have he : ¬ c = 32 ∧ ¬ c = 9 := by simpa using he
    have h1 : ¬ 32 = c := fun e => he.1 e.symm
    have h2 : ¬ 9 = c := fun e => he.2 e.symm
    have : Lib.indexByte [32, 9] c = -1 := by simp [Lib.indexByte, h1, h2]
    show Lib.indexByte [32, 9] c < 0
    rw [this]; decide
set_option maxHeartbeats 400000 in
theorem shouldS (n : Int) (w : World) :
    Calls Tryz.prog 108 #[.int .i64 n] w fun e w' => e = .returned (.bool (decide (8 < n))) ∧ w' = w := by
  go_enter Tryz.func108, Tryz.ntmps108
  go_wp2
  go_ret
  exact ⟨rfl, rfl⟩
set_option maxRecDepth 20000 in
set_option maxHeartbeats 1000000 in
theorem idxC8 (s : ByteArray) (W : World) (h8 : s.size ≤ 8) : IdxC s W := by
  unfold IdxC
  have h8' : decide ((8 : Int) < (s.size : Int)) = false := decide_eq_false (by omega)
  have BF := hide' (blank_at s)
  have BZ : Hid (s.size = 0 → blankFirst s.data.toList = false) := fun h => by
    have e : s.data.toList = [] := List.eq_nil_of_length_eq_zero (by simpa using h)
    rw [e]; rfl
  generalize blankFirst s.data.toList = bf at BF BZ ⊢
  go_enter Tryz.func82, Tryz.ntmps82
  go_wp2_with (go_at_call 108; refine (shouldS _ _).mono ?_; rintro e w' ⟨rfl, hw⟩; rw [hw]; clear hw)
  clear h8'
  go_loopg [9] s.size (fun g _ wr => ∃ pos : Nat, pos + g = s.size ∧ Hid (wr.heap[W.heap.size]? = some (.stringIter s pos)) ∧ Hid (Below W.heap.size W wr) ∧ Hid (0 < pos → bf = false))
  case atStart => exact ⟨0, by omega, World.iter_heap W s 0, iter_below W s 0, fun h => absurd h (by omega)⟩
  case round =>
    obtain ⟨pos, hp, HI, HB, HF⟩ := hrel
    by_cases hlt : pos < s.size
    · have hbt := byte_lt s[pos]
      by_cases ha : (s[pos]).toNat < 128
      · have hdec := decode_ascii s pos hlt ha
        have hnx := fun ty => run_next_at wr W.heap.size s pos ty HI.out hlt
        rw [hdec] at hnx
        have HI2 := hide' (iter_at HI.out (pos + 1))
        have HB2 : Hid (Below W.heap.size W (setIter wr W.heap.size s (pos + 1))) := iter_keeps HB.out (Nat.le_refl _)
        obtain ⟨r, cR, hr1, hr2⟩ := idxRuneA s[pos] (setIter wr W.heap.size s (pos + 1)) ha
        have CR := hide' cR
        simp only at hnx
        cases he : blankI ((s[pos]).toNat : Int) with
        | true =>
          have hr0 := hr1 he
          have BE : Hid (((pos : Int) == 0) = bf) := by
            unfold Hid
            by_cases h0 : pos = 0
            · subst h0; rw [BF.out hlt, he]; rfl
            · rw [HF.out (by omega)]; simp; omega
          clear hr1 hr2 he cR hdec ha
          generalize (s[pos]).toNat = cn at hnx CR hbt
          generalize setIter wr W.heap.size s (pos + 1) = w2 at hnx HI2 HB2 CR
          go_wp2_with (go_at_call 107; refine CR.out.mono ?_; rintro e w' ⟨rfl, hw⟩; rw [hw]; clear hw)
          go_ret
          exact ⟨_, rfl, BE, HB2.out⟩
        | false =>
          have hr0 := hr2 he
          have HF2 : Hid (0 < pos + 1 → bf = false) := fun _ => by
            by_cases h0 : pos = 0
            · subst h0; rw [BF.out hlt, he]
            · exact HF.out (by omega)
          clear hr1 hr2 he cR hdec ha
          generalize (s[pos]).toNat = cn at hnx CR hbt
          generalize setIter wr W.heap.size s (pos + 1) = w2 at hnx HI2 HB2 CR
          go_wp2_with (go_at_call 107; refine CR.out.mono ?_; rintro e w' ⟨rfl, hw⟩; rw [hw]; clear hw)
          go_roundg (gk - 1)
          case measure => omega
          case rel => exact ⟨pos + 1, by omega, HI2, HB2, HF2⟩
      · obtain ⟨R, K, hdec, hK1, hKn, hR1, hR2, hk⟩ := dec_at s pos hlt (by omega)
        have hnx := fun ty => run_next_at wr W.heap.size s pos ty HI.out hlt
        rw [hdec] at hnx
        have HI2 := hide' (iter_at HI.out (pos + K))
        have HB2 : Hid (Below W.heap.size W (setIter wr W.heap.size s (pos + K))) := iter_keeps HB.out (Nat.le_refl _)
        have CR := hide' (fun w => idxRune (R : Int) w (by omega) (hk.imp (fun e => by rw [e]; rfl) id))
        simp only at hnx
        have HF2 : Hid (0 < pos + K → bf = false) := fun _ => by
          by_cases h0 : pos = 0
          · subst h0
            rw [BF.out hlt]
            unfold blankI
            simp
            omega
          · exact HF.out (by omega)
        clear hk hdec ha hR1 hR2
        generalize (R : Int) = ri at hnx CR
        generalize setIter wr W.heap.size s (pos + K) = w2 at hnx HI2 HB2
        go_wp2_with fail
        refine (CR.out _).mono ?_
        rintro e w3 ⟨rfl, b3⟩
        have HI3 := hide' (iter_stays HI2.out b3)
        have HB3 := hide' (bt' HB2.out b3)
        clear b3 hnx HI2 HB2
        go_wp2_with fail
        go_roundg (gk - K)
        case measure => omega
        case rel => exact ⟨pos + K, by omega, HI3, HB3, HF2⟩
    · have hnx := fun ty => run_next_over wr W.heap.size s pos ty HI.out hlt
      have BE : Hid (((-1 : Int) == 0) = bf) := by
        unfold Hid
        by_cases h0 : s.size = 0
        · rw [BZ.out h0]; rfl
        · rw [HF.out (by omega)]; rfl
      go_wp2_with fail
      go_ret
      exact ⟨_, rfl, BE, HB.out⟩
theorem idxC (s : ByteArray) (W : World) (hs : s.size < 4294967281) : IdxC s W := by
  by_cases h8 : 8 < s.size
  · exact idxC9 s W h8 hs
  · exact idxC8 s W (by omega)
end Go.Proofs.YtenegcoapejbmaaGreatDoor
namespace Go.Proofs.YtenegcoapejbmaaGreatDoor
open Go.RowKit
/-- what the road of Parse reads of the library's variables -/
def Env (w : World) : Prop := MaxV w ∧ TabsV w
theorem env_below {w w' : World} (h : Env w) (hb : Below w.heap.size w w') : Env w' := ⟨maxV_below h.1 hb, tabsV_below h.2 hb⟩
theorem parseC (v : Value) (bs : List UInt8) (w : World) (hv : HoldsB w v bs) (E : Env w) (hs : bs.length < 4294967281) :
    Calls Tryz.prog 49 #[v] w fun e w' => ∃ lv, e = .returned (.tuple #[lv, .int .i64 (parseOf bs).2]) ∧ OwnF w lv (parseOf bs).1 w' :=
  parseTok v bs w hv E.1 hs (fun W hb ao cap line _ hl hB => containsAny line ao cap W hB (maxV_below E.1 hb) (tabsV_below E.2 hb) (by omega)) (fun W _ s _ hl => idxC s W (by omega))
theorem parseF_len : ∀ (n : Nat) (bs : List UInt8) (acc : FL), acc.length ≤ 100 → (parseF n bs acc).1.length ≤ 100 := by
  intro n
  induction n with
  | zero => intro bs acc h; exact h
  | succ n ih =>
    intro bs acc h
    unfold parseF
    split
    · exact h
    · split
      · simp
      · split
        · simp
        · split
          · simp
          · exact ih _ _ (by rw [List.length_append, List.length_singleton]; omega)
theorem parse_len (bs : List UInt8) : (parseOf bs).1.length ≤ 100 := parseF_len _ _ _ (by simp)
end Go.Proofs.YtenegcoapejbmaaGreatDoor
namespace Go.Proofs.YtenegcoapejbmaaGreatDoor
open Go.RowKit
theorem ba_eql' (a b : List UInt8) (h : ¬ a = b) : ((⟨a.toArray⟩ : ByteArray).toList == (⟨b.toArray⟩ : ByteArray).toList) = false := by
  rw [Lib.toList_data, Lib.toList_data]; simpa using h
end Go.Proofs.YtenegcoapejbmaaGreatDoor
