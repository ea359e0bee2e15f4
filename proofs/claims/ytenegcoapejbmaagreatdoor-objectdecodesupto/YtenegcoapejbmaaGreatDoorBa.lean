/- Plain lemmas on bytes and lists, and how a row of bytes that a call owns is read as a string; nothing of the program is named here. A row of bytes that a call itself made: one more byte appended to it, and its conversion to a string. Small things that every text uses. A slice whose elements are these bytes. The contracts of textByte and of the document's Text. The bodies of the library's functions that are met here are those that the kit's contracts were proved of: the tables of numbers, checked body by body. The contract of Clone. The contracts of trimmed, Clone, Trim and of the document's Trim. The contracts of Trim and of the document's Trim. Plain definitions of what a token's bytes are; the contracts of tokenByte and of the document's Byte. The contract of the document's Byte, and those of Token and of the document's Token. The contract of Token. The contract of the document's Token. The contracts of Fold and of the document's Lower. Fields in plain words: the values of a name, the fields of other names, a name put in. A row of texts that a call itself made: one more text appended to it, and what it holds in later worlds; the contract of SameTexts. A row of fields that a call itself made: more appended to it, and what it holds in later worlds; a list of fields that came in. The contracts of CopyFields and SameFields. The contracts of clone and Without. Rows that are owned, beside blocks that are written. A block of four cells that may be written. A list of fields that is owned, as what it holds (a block of four cells: Q4). Copies of requests and responses; two that are alike are told as such. A whole list of bytes appended; the contracts of CopyBytes and SameBytes. A block of any number of cells that may be written (a struct of several parts). A block of any number of cells, beside blocks of four. -/
import Derived.WalkKit
import Derived.ProofKit
import Derived.Test.YtenegcoapejbmaaGreatDoorRows
import Derived.Handy
import Derived.Shelf.Strings.SlTrimAscii
import Derived.Shelf.Strconv.Clone
import Derived.Shelf.Strings.Search1
import Derived.Test.YtenegcoapejbmaaGreatDoorProg
import Derived.Laws.DeepStrings4
import Derived.Deep.QuietTactic
import Derived.BigQuiet
import Derived.Laws.AppendOwnNone
import Derived.Lib.Bytealg
import Derived.Maps.Own
import Derived.Maps.OwnSet
import Derived.Maps.OwnOps
import Derived.WideShapes
namespace Go.Proofs.YtenegcoapejbmaaGreatDoor
open Go.RowKit

/-- a byte as the cell that holds it -/
def B (c : UInt8) : Value := .int .u8 (c.toNat : Int)
def txtI (c : Int) : Bool := decide (c = 9 ∨ (32 ≤ c ∧ c ≠ 127))
def txt (c : UInt8) : Bool := txtI (c.toNat : Int)
def esc (c : UInt8) : List UInt8 := if (c.toNat : Int) = 34 ∨ (c.toNat : Int) = 92 then [92, c] else [c]
def escs (l : List UInt8) : List UInt8 := l.flatMap esc
def quoteOf (l : List UInt8) : List UInt8 × Int := if l.all txt then (34 :: (escs l ++ [34]), 0) else ([], 11)

theorem byte_lt (c : UInt8) : 0 ≤ (c.toNat : Int) ∧ (c.toNat : Int) ≤ 255 := by have := c.toNat_lt; omega
theorem escs_len (l : List UInt8) : (escs l).length ≤ 2 * l.length := by
  induction l with
  | nil => simp [escs]
  | cons c l ih =>
    have h : escs (c :: l) = esc c ++ escs l := by simp [escs]
    have h2 : (esc c).length ≤ 2 := by unfold esc; split <;> simp
    rw [h]; simp; omega
theorem escs_snoc (l : List UInt8) (c : UInt8) : escs (l ++ [c]) = escs l ++ esc c := by simp [escs]
theorem take_snoc (s : ByteArray) (k : Nat) (h : k < s.size) : s.data.toList.take (k + 1) = s.data.toList.take k ++ [s[k]] := by
  rw [List.take_succ_eq_append_getElem (by simpa using h)]; rfl
theorem take_all (s : ByteArray) (k : Nat) (h : s.size ≤ k) : s.data.toList.take k = s.data.toList := by
  exact List.take_of_length_le (by simpa using h)
theorem all_false (l : List UInt8) (k : Nat) (h : k < l.length) (hc : txt l[k] = false) : l.all txt = false := by
  rw [List.all_eq_false]; exact ⟨l[k], List.getElem_mem _, by simp [hc]⟩
theorem fold_push (l : List UInt8) : ∀ r : ByteArray, (l.map (fun c => (c.toNat : Int))).foldl (fun r n => r.push (UInt8.ofNat n.toNat)) r = ⟨r.data ++ l.toArray⟩ := by
  induction l with
  | nil => intro r; simp
  | cons c l ih =>
    intro r
    simp only [List.map_cons, List.foldl_cons]
    rw [ih]
    simp [ByteArray.push]
theorem map_B (l : List UInt8) : l.map B = (l.map (fun c => (c.toNat : Int))).map (Value.int .u8) := by simp [B, Function.comp_def]
theorem ba_eta (s : ByteArray) : (⟨s.data.toList.toArray⟩ : ByteArray) = s := by cases s; simp
end Go.Proofs.YtenegcoapejbmaaGreatDoor
namespace Go.Proofs.YtenegcoapejbmaaGreatDoor
open Go.RowKit
theorem Tryz.info5 : (Tryz.prog.info? 5).map (fun i => (i.zero, i.size, i.bytes)) = some (some (.int .u8 0), 1, 1) := by kernel_rfl
theorem load_own (w : World) (base g cap : Nat) (bs : List UInt8) (h : w.ownsRow base 5 1 (.slice (some ⟨g, 0, none⟩) bs.length cap) bs.length (bs.map B)) :
    (loadCells ⟨g, 0, none⟩ bs.length).run Tryz.prog w = .ok ((bs.map (fun c => (c.toNat : Int))).map (Value.int .u8)).toArray w := by
  have := run_loadCells_list (P := Tryz.prog) (w := w) ⟨g, 0, none⟩ (bs.map B) (fun j v hv => h.cells rfl j v hv)
  simpa [map_B] using this
theorem conv_own (w : World) (base g cap : Nat) (bs : List UInt8) (h : w.ownsRow base 5 1 (.slice (some ⟨g, 0, none⟩) bs.length cap) bs.length (bs.map B)) :
    Sem.run Tryz.prog (convert 22 9 (.slice (some ⟨g, 0, none⟩) bs.length cap)) w = .ok (.string ⟨bs.toArray⟩) w := by
  rw [run_convert_bytes_string w 22 9 5 _ _ _ Tryz.underlying22 Tryz.underlying5 Tryz.underlying9, run_bytesToString w _ _ _ _ (load_own w base g cap bs h), fold_push]
  simp
theorem conv_nil (w : World) :
    Sem.run Tryz.prog (convert 22 9 (.slice none 0 0)) w = .ok (.string ⟨#[]⟩) w := by
  rw [run_convert_bytes_string w 22 9 5 _ _ _ Tryz.underlying22 Tryz.underlying5 Tryz.underlying9]
  unfold Conv.bytesToString
  simp [Sem.run_pure]
  rfl
/-- v holds just the bytes bs, in a row of the call's own; what lay below is as it was -/
def Own (w0 : World) (v : Value) (bs : List UInt8) (w : World) : Prop := w.ownsRow w0.heap.size 5 1 v bs.length (bs.map B) ∧ Below w0.heap.size w0 w
theorem own_nil (w0 w : World) (h : Below w0.heap.size w0 w) : Own w0 (.slice none 0 0) [] w := ⟨World.ownsRow_nil _ _ _ _, h⟩
theorem own_lit (w0 : World) (c : UInt8) (n : Int) (hn : n = (c.toNat : Int)) : Own w0 (.slice (some ⟨w0.heap.size, 0, none⟩) 1 1) [c] (w0.alloc (.cells #[.int .u8 n] 5)) := by
  subst hn
  exact ⟨World.ownsRow_lit w0 #[.int .u8 (c.toNat : Int)] 1 (Nat.le_refl _) (by decide) rfl, (Below.refl _ _).alloc (Nat.le_refl _) _⟩
theorem app1 {ops : Array Oper} {rest : List Oper} {o : Oper} {a : Act} {Q : Exit → Act → World → Prop} {wr : World} {n : Int} (hgd : o.guard = none) (s x : Operand)
    (ho : o.op = .call { callee := .builtin .append, args := #[s, x], argTypes := #[22, 22] }) (w0 : World) (v : Value) (bs : List UInt8) (hs : a.eval s = v) (hown : Own w0 v bs wr)
    (c : UInt8) (hn : n = (c.toNat : Int)) (hx : a.eval x = .slice (some ⟨wr.heap.size, 0, none⟩) 1 1) (hlen : bs.length + 1 ≤ 140737488355328)
    (h : ∀ v' w', Own w0 v' (bs ++ [c]) w' → wpList Tryz.prog ops Q rest (a.put o.dst v') w') : wpList Tryz.prog ops Q (o :: rest) a (wr.alloc (.cells #[.int .u8 n] 5)) := by
  subst hn
  obtain ⟨i0, hi, hz0, hz1, hz2⟩ := info_parts Tryz.info5
  have hsz := hown.2.size
  refine wpList_append_own _ hgd s x 22 ho w0.heap.size 5 i0 (.int .u8 0) 1 1 Tryz.underlying22 hi hz0 hz1 hz2 rfl (by decide) v bs.length (bs.map B) hs (hown.1.alloc _) ⟨wr.heap.size, 0, none⟩ 1 1 [B c] hx rfl ?_ ?_ ?_ ?_ ?_ ?_
  · intro j u hj
    match j, hj with
    | 0, hj => simp at hj; subst hj; simp [Addr.add, B]
  · intro u hu; simp at hu; subst hu; rfl
  · unfold maxLen; omega
  · omega
  · simp; omega
  · intro v' w' h1 h2 _
    refine h v' w' ⟨by simpa using h1, ?_⟩
    refine Below.grown (hown.2.alloc (by omega) _) h2 (by simp; omega) ?_
    intro k hk
    exact (hown.1.lt k hk).1
theorem own_conv {w0 w : World} {v : Value} {bs : List UInt8} (h : Own w0 v bs w) : Sem.run Tryz.prog (convert 22 9 v) w = .ok (.string ⟨bs.toArray⟩) w := by
  rcases h.1.2 with ⟨rfl, hn⟩ | ⟨g, cap, cur, rfl, _⟩
  · obtain rfl : bs = [] := List.eq_nil_of_length_eq_zero hn
    exact conv_nil w
  · exact conv_own w _ g cap bs h.1
theorem extract_list (s : ByteArray) (a b : Nat) : (s.extract a b).data.toList = (s.data.toList.drop a).take (b - a) := by
  simp [ByteArray.data_extract, List.extract_eq_take_drop]
theorem own_empty (w0 : World) : Own w0 (.slice (some ⟨w0.heap.size, 0, none⟩) 0 0) [] (w0.alloc (.cells #[] 5)) :=
  ⟨World.ownsRow_lit w0 #[] 0 (Nat.le_refl _) (by decide) rfl, (Below.refl _ _).alloc (Nat.le_refl _) _⟩
end Go.Proofs.YtenegcoapejbmaaGreatDoor
namespace Go.Proofs.YtenegcoapejbmaaGreatDoor
open Go.RowKit
theorem hide' {p : Prop} (h : p) : Hid p := h
theorem size_l (l : List UInt8) : (⟨l.toArray⟩ : ByteArray).size = l.length := by show l.toArray.size = _; rw [List.size_toArray]
theorem bcell {W w1 : World} (hb : Below W.heap.size W w1) : (∀ b o, b < W.heap.size → w1.cell? ⟨b, o, none⟩ = W.cell? ⟨b, o, none⟩) ∧ (∀ b o, b < W.heap.size → w1.frozen? ⟨b, o, none⟩ = W.frozen? ⟨b, o, none⟩) :=
  ⟨fun b o h => hb.cell (p := ⟨b, o, none⟩) h, fun b o h => hb.frozen (p := ⟨b, o, none⟩) h⟩
theorem below_alloc' (w : World) (o : Obj) : Below w.heap.size w (w.alloc o) := (Below.refl _ _).alloc (Nat.le_refl _) _
abbrev FL := List (List UInt8 × List UInt8)
end Go.Proofs.YtenegcoapejbmaaGreatDoor
namespace Go.Proofs.YtenegcoapejbmaaGreatDoor
open Go.RowKit
/-- v is a slice whose elements are the bytes bs -/
def HoldsB (w : World) (v : Value) (bs : List UInt8) : Prop :=
  ∃ ao cap, v = .slice ao bs.length cap ∧ (ao = none → cap = 0) ∧ bs.length ≤ cap ∧ (bs ≠ [] → ∃ b off, ao = some ⟨b, off, none⟩ ∧ b < w.heap.size ∧ ∀ j (h : j < bs.length), w.cell? ⟨b, off + j, none⟩ = some (B bs[j]))
theorem holdsB_own {w0 w : World} {v : Value} {bs : List UInt8} (h : Own w0 v bs w) : HoldsB w v bs := by
  obtain ⟨hl, h1 | ⟨g, cap, cur, rfl, hg, hh, hr⟩⟩ := h.1
  · obtain ⟨rfl, hn⟩ := h1
    obtain rfl : bs = [] := List.eq_nil_of_length_eq_zero hn
    exact ⟨none, 0, rfl, fun _ => rfl, Nat.le_refl _, fun h => absurd rfl h⟩
  · refine ⟨_, cap, rfl, fun e => (by cases e), hr.1, fun _ => ⟨g, 0, rfl, (h.1.lt g rfl).2, fun j hj => ?_⟩⟩
    rw [Nat.zero_add, h.1.cellAt j (by omega)]
    simp [hj]
theorem holdsB_mono {w w' : World} {v : Value} {bs : List UInt8} (h : HoldsB w v bs) (hb : Below w.heap.size w w') : HoldsB w' v bs := by
  obtain ⟨ao, cap, rfl, h0, hcp, hc⟩ := h
  refine ⟨ao, cap, rfl, h0, hcp, fun hne => ?_⟩
  obtain ⟨b, off, rfl, hlt, hcell⟩ := hc hne
  have := hb.size
  exact ⟨b, off, rfl, by omega, fun j hj => by rw [hb.cell (p := ⟨b, off + j, none⟩) hlt]; exact hcell j hj⟩
theorem holdsB_pre {w : World} {ao : Option Addr} {cap : Nat} {bs : List UInt8} (h : HoldsB w (.slice ao bs.length cap) bs) (i : Nat) (hi : i ≤ bs.length) : HoldsB w (.slice ao i cap) (bs.take i) := by
  obtain ⟨ao', cap', e, h0, hcp, hc⟩ := h
  simp only [Value.slice.injEq] at e
  obtain ⟨rfl, _, rfl⟩ := e
  have hl : (bs.take i).length = i := by rw [List.length_take]; omega
  refine ⟨ao, cap, by rw [hl], h0, by omega, fun hne => ?_⟩
  obtain ⟨b, off, rfl, hlt, hcell⟩ := hc (fun e => hne (by rw [e]; simp))
  exact ⟨b, off, rfl, hlt, fun j hj => by rw [hcell j (by omega)]; simp⟩
end Go.Proofs.YtenegcoapejbmaaGreatDoor
namespace Go.Proofs.YtenegcoapejbmaaGreatDoor
open Go.RowKit
set_option maxHeartbeats 400000 in
theorem textFld (c : Int) (h0 : 0 ≤ c) (h1 : c ≤ 255) (w : World) :
    Calls Tryz.prog 114 #[.int .u8 c] w fun e w' => e = .returned (.bool (txtI c)) ∧ w' = w := by
  by_cases a1 : c = 9
  · subst a1
    have H : Hid (txtI 9 = true) := rfl
    go_enter Tryz.func114, Tryz.ntmps114
    go_wp2
    go_ret
    rw [H.out]
    exact ⟨rfl, rfl⟩
  · by_cases a2 : 32 ≤ c
    · by_cases a3 : c = 127
      · subst a3
        have H : Hid (txtI 127 = false) := rfl
        go_enter Tryz.func114, Tryz.ntmps114
        go_wp2
        go_ret
        rw [H.out]
        exact ⟨rfl, rfl⟩
      · have b1 : (c == 9) = false := by simpa using a1
        have b2 : (c != 127) = true := by simpa using a3
        have H : Hid (txtI c = true) := by unfold Hid txtI; simp; omega
        go_enter Tryz.func114, Tryz.ntmps114
        go_wp2
        go_ret
        rw [H.out]
        exact ⟨rfl, rfl⟩
    · have b1 : (c == 9) = false := by simpa using a1
      have b2 : decide (32 ≤ c) = false := by simpa using a2
      have H : Hid (txtI c = false) := by unfold Hid txtI; simp; omega
      go_enter Tryz.func114, Tryz.ntmps114
      go_wp2
      go_ret
      rw [H.out]
      exact ⟨rfl, rfl⟩
set_option maxHeartbeats 400000 in
theorem textRef (c : Int) (h0 : 0 ≤ c) (h1 : c ≤ 255) (w : World) :
    Calls Tryz.prog 50 #[.int .u8 c] w fun e w' => e = .returned (.bool (txtI c)) ∧ w' = w := by
  by_cases a1 : c = 9
  · subst a1
    have H : Hid (txtI 9 = true) := rfl
    go_enter Tryz.func50, Tryz.ntmps50
    go_wp2
    go_ret
    rw [H.out]
    exact ⟨rfl, rfl⟩
  · by_cases a2 : 32 ≤ c
    · by_cases a3 : c = 127
      · subst a3
        have H : Hid (txtI 127 = false) := rfl
        go_enter Tryz.func50, Tryz.ntmps50
        go_wp2
        go_ret
        rw [H.out]
        exact ⟨rfl, rfl⟩
      · have b1 : (c == 9) = false := by simpa using a1
        have b2 : (c != 127) = true := by simpa using a3
        have H : Hid (txtI c = true) := by unfold Hid txtI; simp; omega
        go_enter Tryz.func50, Tryz.ntmps50
        go_wp2
        go_ret
        rw [H.out]
        exact ⟨rfl, rfl⟩
    · have b1 : (c == 9) = false := by simpa using a1
      have b2 : decide (32 ≤ c) = false := by simpa using a2
      have H : Hid (txtI c = false) := by unfold Hid txtI; simp; omega
      go_enter Tryz.func50, Tryz.ntmps50
      go_wp2
      go_ret
      rw [H.out]
      exact ⟨rfl, rfl⟩
end Go.Proofs.YtenegcoapejbmaaGreatDoor
namespace Go.Proofs
open Go.Shelf
def Tryz.lays160_ren : Go.Shelf.Ren := ⟨fun | 160 => 130 | 232 => 138 | 231 => 137 | 227 => 109 | 234 => 140 | 233 => 139 | 236 => 142 | 235 => 141 | 228 => 110 | 271 => 145 | 151 => 144 | 197 => 143 | 120 => 147 | 152 => 107 | 260 => 146 | 137 => 129 | 119 => 126 | 224 => 75 | 225 => 106 | 217 => 120 | 266 => 100 | n => n, fun | 9 => 9 | 4 => 4 | 3 => 3 | 5 => 5 | 117 => 126 | 116 => 125 | 0 => 0 | 124 => 141 | 21 => 21 | 105 => 122 | 46 => 74 | 119 => 150 | 139 => 153 | 138 => 152 | n => n, fun | 3 => 4 | 4 => 5 | n => n⟩
theorem Tryz.lays160 : Go.Proofs.Lays.n160 Tryz.prog Tryz.lays160_ren := {
  mixed := by kernel_rfl
  f119 := Tryz.func126.trans (congrArg some (by kernel_rfl))
  f120 := Tryz.func147.trans (congrArg some (by kernel_rfl))
  f137 := Tryz.func129.trans (congrArg some (by kernel_rfl))
  f151 := Tryz.func144.trans (congrArg some (by kernel_rfl))
  f152 := Tryz.func107.trans (congrArg some (by kernel_rfl))
  f160 := Tryz.func130.trans (congrArg some (by kernel_rfl))
  f197 := Tryz.func143.trans (congrArg some (by kernel_rfl))
  f217 := Tryz.func120.trans (congrArg some (by kernel_rfl))
  f224 := Tryz.func75.trans (congrArg some (by kernel_rfl))
  f225 := Tryz.func106.trans (congrArg some (by kernel_rfl))
  f227 := Tryz.func109.trans (congrArg some (by kernel_rfl))
  f228 := Tryz.func110.trans (congrArg some (by kernel_rfl))
  f231 := Tryz.func137.trans (congrArg some (by kernel_rfl))
  f232 := Tryz.func138.trans (congrArg some (by kernel_rfl))
  f233 := Tryz.func139.trans (congrArg some (by kernel_rfl))
  f234 := Tryz.func140.trans (congrArg some (by kernel_rfl))
  f235 := Tryz.func141.trans (congrArg some (by kernel_rfl))
  f236 := Tryz.func142.trans (congrArg some (by kernel_rfl))
  f260 := Tryz.func146.trans (congrArg some (by kernel_rfl))
  f266 := Tryz.func100.trans (congrArg some (by kernel_rfl))
  f271 := Tryz.func145.trans (congrArg some (by kernel_rfl))
  t0 := Tryz.underlying0
  a0 := Tryz.isAgg0
  z0 := Tryz.sizeOf0
  v0 := Tryz.zeroValue0
  t3 := Tryz.underlying3
  a3 := Tryz.isAgg3
  z3 := Tryz.sizeOf3
  v3 := Tryz.zeroValue3
  t4 := Tryz.underlying4
  a4 := Tryz.isAgg4
  z4 := Tryz.sizeOf4
  v4 := Tryz.zeroValue4
  t5 := Tryz.underlying5
  a5 := Tryz.isAgg5
  z5 := Tryz.sizeOf5
  v5 := Tryz.zeroValue5
  t9 := Tryz.underlying9
  a9 := Tryz.isAgg9
  z9 := Tryz.sizeOf9
  v9 := Tryz.zeroValue9
  t21 := Tryz.underlying21
  a21 := Tryz.isAgg21
  z21 := Tryz.sizeOf21
  v21 := Tryz.zeroValue21
  t46 := Tryz.underlying74
  a46 := Tryz.isAgg74
  z46 := Tryz.sizeOf74
  v46 := Tryz.zeroValue74
  t105 := Tryz.underlying122
  a105 := Tryz.isAgg122
  z105 := Tryz.sizeOf122
  v105 := Tryz.zeroValue122
  t116 := Tryz.underlying125
  a116 := Tryz.isAgg125
  z116 := Tryz.sizeOf125
  t117 := Tryz.underlying126
  a117 := Tryz.isAgg126
  z117 := Tryz.sizeOf126
  v117 := Tryz.zeroValue126
  t119 := Tryz.underlying150
  a119 := Tryz.isAgg150
  z119 := Tryz.sizeOf150
  t124 := Tryz.underlying141
  a124 := Tryz.isAgg141
  z124 := Tryz.sizeOf141
  v124 := Tryz.zeroValue141
  t138 := Tryz.underlying152
  a138 := Tryz.isAgg152
  z138 := Tryz.sizeOf152
  v138 := Tryz.zeroValue152
  t139 := Tryz.underlying153
  a139 := Tryz.isAgg153
  z139 := Tryz.sizeOf153
  v139 := Tryz.zeroValue153
  g3 := by kernel_rfl
  g4 := by kernel_rfl }
def Tryz.laysM316_ren : Go.Shelf.Ren := ⟨fun | 316 => 124 | n => n, fun | 9 => 9 | 3 => 3 | 4 => 4 | 37 => 22 | 0 => 0 | 127 => 146 | 5 => 5 | n => n, fun | n => n⟩
theorem Tryz.laysM316 : Go.Proofs.LaysM.n316 Tryz.prog Tryz.laysM316_ren := {
  mixed := by kernel_rfl
  f316 := Tryz.func124.trans (congrArg some (by kernel_rfl))
  t0 := Tryz.underlying0
  a0 := Tryz.isAgg0
  z0 := Tryz.sizeOf0
  v0 := Tryz.zeroValue0
  t3 := Tryz.underlying3
  a3 := Tryz.isAgg3
  z3 := Tryz.sizeOf3
  v3 := Tryz.zeroValue3
  t4 := Tryz.underlying4
  a4 := Tryz.isAgg4
  z4 := Tryz.sizeOf4
  v4 := Tryz.zeroValue4
  t9 := Tryz.underlying9
  a9 := Tryz.isAgg9
  z9 := Tryz.sizeOf9
  v9 := Tryz.zeroValue9
  t37 := Tryz.underlying22
  a37 := Tryz.isAgg22
  z37 := Tryz.sizeOf22
  v37 := Tryz.zeroValue22
  t127 := Tryz.underlying146
  a127 := Tryz.isAgg146
  z127 := Tryz.sizeOf146
  v127 := Tryz.zeroValue146
  t5 := Tryz.underlying5
  a5 := Tryz.isAgg5
  z5 := Tryz.sizeOf5
  v5 := Tryz.zeroValue5
  i0 := by kernel_rfl
  i3 := by kernel_rfl
  i4 := by kernel_rfl
  i5 := by kernel_rfl
  i9 := by kernel_rfl
  i37 := by kernel_rfl
  i127 := by kernel_rfl }
def Tryz.lays137_ren : Go.Shelf.Ren := ⟨fun | 137 => 129 | 217 => 120 | 266 => 100 | n => n, fun | 9 => 9 | 5 => 5 | 3 => 3 | n => n, fun | n => n⟩
theorem Tryz.lays137 : Go.Proofs.Lays.n137 Tryz.prog Tryz.lays137_ren := {
  mixed := by kernel_rfl
  f137 := Tryz.func129.trans (congrArg some (by kernel_rfl))
  f217 := Tryz.func120.trans (congrArg some (by kernel_rfl))
  f266 := Tryz.func100.trans (congrArg some (by kernel_rfl))
  t3 := Tryz.underlying3
  a3 := Tryz.isAgg3
  z3 := Tryz.sizeOf3
  v3 := Tryz.zeroValue3
  t5 := Tryz.underlying5
  a5 := Tryz.isAgg5
  z5 := Tryz.sizeOf5
  v5 := Tryz.zeroValue5
  t9 := Tryz.underlying9
  a9 := Tryz.isAgg9
  z9 := Tryz.sizeOf9
  v9 := Tryz.zeroValue9 }
end Go.Proofs
namespace Go.Proofs.YtenegcoapejbmaaGreatDoor
open Go.RowKit
theorem cloneC (s : ByteArray) (w : World) (hs : s.size ≤ 140737488351232) :
    Calls Tryz.prog 124 #[.string s] w fun e w' => e = .returned (.string s) ∧ Below w.heap.size w w' :=
  Any.stringslite_Clone Tryz.laysM316 s w (by omega)
set_option maxHeartbeats 400000 in
theorem clone (s : ByteArray) (w : World) (hs : s.size ≤ 140737488351232) :
    Calls Tryz.prog 111 #[.string s] w fun e w' => e = .returned (.string s) ∧ Below w.heap.size w w' := by
  go_enter Tryz.func111, Tryz.ntmps111
  go_wp2_with (go_at_call 124; refine (cloneC s _ hs).mono ?_; rintro e w' ⟨rfl, hb⟩)
  go_ret
  exact ⟨rfl, hb⟩
end Go.Proofs.YtenegcoapejbmaaGreatDoor
namespace Go.Proofs.YtenegcoapejbmaaGreatDoor
open Go.RowKit
def trimT (l : List UInt8) : List UInt8 := Lib.trimS l [32, 9]
def blankI (c : Int) : Bool := decide (c = 32 ∨ c = 9)
theorem blank_is (c : UInt8) : ([32, 9] : List UInt8).contains c = blankI (c.toNat : Int) := by
  have : ∀ n : Nat, n < 256 → ([32, 9] : List UInt8).contains (UInt8.ofNat n) = blankI ((UInt8.ofNat n).toNat : Int) := by decide +kernel
  have h := this c.toNat c.toNat_lt
  rwa [UInt8.ofNat_toNat] at h
theorem dropWhile_len (p : UInt8 → Bool) (l : List UInt8) : (l.dropWhile p).length ≤ l.length := (List.dropWhile_sublist p).length_le
theorem trimT_len (l : List UInt8) : (trimT l).length ≤ l.length := by
  unfold trimT Lib.trimS Lib.trimLeftS Lib.trimRightS
  have h1 := dropWhile_len (fun x => ([32, 9] : List UInt8).contains x) l.reverse
  have h2 := dropWhile_len (fun x => ([32, 9] : List UInt8).contains x) (List.dropWhile (fun x => ([32, 9] : List UInt8).contains x) l.reverse).reverse
  rw [List.length_reverse] at h1 h2
  exact Nat.le_trans h2 h1
def left (s : ByteArray) (f : Nat) : Prop := ∀ j (hj : j < s.size), j < f → blankI (s[j].toNat : Int) = true
def right (s : ByteArray) (t : Nat) : Prop := ∀ j (hj : j < s.size), t ≤ j → blankI (s[j].toNat : Int) = true
theorem get_list (s : ByteArray) (j : Nat) (b : UInt8) (h : s.data.toList[j]? = some b) : ∃ hj : j < s.size, s[j] = b := by
  obtain ⟨hj, e⟩ := List.getElem?_eq_some_iff.1 h
  exact ⟨by simpa using hj, e⟩
theorem trim_is (s : ByteArray) (f t : Nat) (hft : f ≤ t) (ht : t ≤ s.size) (hl : left s f) (hf : ∀ h : f < s.size, blankI (s[f].toNat : Int) = false) (hr : right s t) (hn : ∀ (_ : f < t) (h : t - 1 < s.size), blankI (s[t - 1].toNat : Int) = false) : trimT s.data.toList = (s.data.toList.drop f).take (t - f) := by
  have hlen : s.data.toList.length = s.size := by simp
  unfold trimT Lib.trimS
  by_cases e : f = s.size
  · have h0 : Lib.trimRightS s.data.toList [32, 9] = s.data.toList.take 0 := by
      refine Lib.trimRightS_take _ _ 0 (Nat.zero_le _) (fun j b _ hb => ?_) (fun b h _ => absurd h (Nat.lt_irrefl _))
      obtain ⟨hj, rfl⟩ := get_list s j b hb
      rw [blank_is]; exact hl j hj (by omega)
    rw [h0, List.take_zero, Lib.trimLeftS_nil, List.drop_of_length_le (by omega), List.take_nil]
  · have hlt : f < s.size := by omega
    have hne : f < t := by
      rcases Nat.lt_or_ge f t with h | h
      · exact h
      · have := hr f hlt h; rw [hf hlt] at this; exact absurd this (by decide)
    have h0 : Lib.trimRightS s.data.toList [32, 9] = s.data.toList.take t := by
      refine Lib.trimRightS_take _ _ t (by omega) (fun j b hj hb => ?_) (fun b _ hb => ?_)
      · obtain ⟨hj', rfl⟩ := get_list s j b hb
        rw [blank_is]; exact hr j hj' hj
      · obtain ⟨hj', rfl⟩ := get_list s _ b hb
        rw [blank_is]; exact hn hne hj'
    have h1 : Lib.trimLeftS (s.data.toList.take t) [32, 9] = (s.data.toList.take t).drop f := by
      refine Lib.trimLeftS_drop _ _ f (by rw [List.length_take]; omega) (fun j b hj hb => ?_) (fun b hb => ?_)
      · rw [List.getElem?_take_of_lt (by omega)] at hb
        obtain ⟨hj', rfl⟩ := get_list s j b hb
        rw [blank_is]; exact hl j hj' hj
      · rw [List.getElem?_take_of_lt hne] at hb
        obtain ⟨hj', rfl⟩ := get_list s f b hb
        rw [blank_is]; exact hf hlt
    rw [h0, h1, List.drop_take]
theorem trimC (s : ByteArray) (w : World) (hs : s.size ≤ 140737488351232) :
    Calls Tryz.prog 130 #[.string s, .string ⟨#[32, 9]⟩] w fun e w' => e = .returned (.string ⟨(trimT s.data.toList).toArray⟩) ∧ Below w.heap.size w w' :=
  Any.strings_Trim_laid Tryz.lays160 (by kernel_rfl) s ⟨#[32, 9]⟩ w (by omega) (by decide) (ascii_of_all (by decide))
set_option maxHeartbeats 400000 in
theorem trimmed (s : ByteArray) (w : World) (hs : s.size ≤ 140737488351232) :
    Calls Tryz.prog 112 #[.string s] w fun e w' => e = .returned (.string ⟨(trimT s.data.toList).toArray⟩) ∧ Below w.heap.size w w' := by
  have hc := trimC s w hs
  generalize (⟨(trimT s.data.toList).toArray⟩ : ByteArray) = r at hc ⊢
  go_enter Tryz.func112, Tryz.ntmps112
  go_wp2_with (go_at_call 130; refine hc.mono ?_; rintro e w' ⟨rfl, hb⟩)
  go_ret
  exact ⟨rfl, hb⟩
end Go.Proofs.YtenegcoapejbmaaGreatDoor
namespace Go.Proofs.YtenegcoapejbmaaGreatDoor
open Go.RowKit
set_option maxRecDepth 20000
theorem size_trimT (s : ByteArray) : (⟨(trimT s.data.toList).toArray⟩ : ByteArray).size ≤ s.size := by
  have := trimT_len s.data.toList
  have e : s.data.toList.length = s.size := by simp
  rw [e] at this
  show (trimT s.data.toList).toArray.size ≤ s.size
  rw [List.size_toArray]
  exact this
set_option maxHeartbeats 400000 in
theorem trimTok (s : ByteArray) (w : World) (hs : s.size ≤ 140737488351232) :
    Calls Tryz.prog 83 #[.string s] w fun e w' => e = .returned (.string ⟨(trimT s.data.toList).toArray⟩) ∧ Below w.heap.size w w' := by
  have hc := trimmed s w hs
  have hz := size_trimT s
  generalize (⟨(trimT s.data.toList).toArray⟩ : ByteArray) = r at hc hz ⊢
  go_enter Tryz.func83, Tryz.ntmps83
  go_wp2_with fail
  refine hc.mono ?_
  rintro e w1 ⟨rfl, hb⟩
  go_wp2_with fail
  refine (clone r _ (by omega)).mono ?_
  rintro e w2 ⟨rfl, hb2⟩
  go_wp2_with fail
  go_ret
  have := hb.size
  exact ⟨rfl, hb.trans (hb2.mono (by omega))⟩
theorem cut_is (s : ByteArray) (f t : Nat) (hft : f ≤ t) (ht : t ≤ s.size) (w : World) :
    Sem.run Tryz.prog (Instr.slice 9 (.string s) (some (.int .i64 f)) (some (.int .i64 t)) none) w = .ok (.string ⟨((s.data.toList.drop f).take (t - f)).toArray⟩) w := by
  rw [run_slice_string (h := Tryz.underlying9)]
  · congr 2
    have : (s.extract f t).data.toList = (s.data.toList.drop f).take (t - f) := by simp [ByteArray.data_extract, List.extract_eq_take_drop]
    simp only [Int.toNat_natCast]
    rw [← this]
  · omega
  · omega
  · omega
set_option maxHeartbeats 1000000 in
theorem trimRef (s : ByteArray) (w : World) (hs : s.size ≤ 140737488351232) :
    Calls Tryz.prog 67 #[.string s] w fun e w' => e = .returned (.string ⟨(trimT s.data.toList).toArray⟩) ∧ w' = w := by
  go_enter Tryz.func67, Tryz.ntmps67
  go_wp2
  go_loop [3] (fun i => ∃ k : Nat, k ≤ s.size ∧ i = .int .i64 k ∧ Hid (left s k)) (fun i => s.size - (intOf i).toNat)
  case atStart => exact ⟨0, by omega, rfl, fun j _ hj => by omega⟩
  case round =>
    obtain ⟨k, hk, rfl, hl⟩ := hrel
    by_cases hc : ∃ h : k < s.size, blankI (s[k].toNat : Int) = true
    · obtain ⟨hlt, hb⟩ := hc
      have N : Hid (left s (k + 1)) := fun j hj hjk => by
        by_cases e : j = k
        · subst e; exact hb
        · exact hl.out j hj (by omega)
      rcases (of_decide_eq_true hb : (s[k].toNat : Int) = 32 ∨ (s[k].toNat : Int) = 9) with h | h
      · have b1 : ((s[k].toNat : Int) == 32) = true := by simp [h]
        clear h hb
        go_wp2
        go_round
        case rel => exact ⟨k + 1, by omega, by go_num, N⟩
        case measure => simp [intOf]; omega
      · have b1 : ((s[k].toNat : Int) == 32) = false := by simp [h]
        have b2 : ((s[k].toNat : Int) == 9) = true := by simp [h]
        clear h hb
        go_wp2
        go_round
        case rel => exact ⟨k + 1, by omega, by go_num, N⟩
        case measure => simp [intOf]; omega
    · have hf : Hid (∀ h : k < s.size, blankI (s[k].toNat : Int) = false) := fun h => by
        cases e : blankI (s[k].toNat : Int) with
        | false => rfl
        | true => exact absurd ⟨h, e⟩ hc
      clear hc
      by_cases hlt : k < s.size
      · have hb := hf.out hlt
        have b1 : ((s[k].toNat : Int) == 32) = false := by unfold blankI at hb; simp at hb; simp; omega
        have b2 : ((s[k].toNat : Int) == 9) = false := by unfold blankI at hb; simp at hb; simp; omega
        clear hb
        go_wp2
        clear b1 b2
        go_loop [4] (fun i => ∃ t : Nat, k ≤ t ∧ t ≤ s.size ∧ i = .int .i64 t ∧ Hid (right s t)) (fun i => (intOf i).toNat)
        case atStart => exact ⟨s.size, by omega, by omega, rfl, fun j hj h => by omega⟩
        case round =>
          obtain ⟨t, hkt, hts, rfl, hr⟩ := hrel
          by_cases hc : ∃ h : k < t, blankI (s[t - 1].toNat : Int) = true
          · obtain ⟨h, hb⟩ := hc
            have N : Hid (right s (t - 1)) := fun j hj hjk => by
              by_cases e : j = t - 1
              · subst e; exact hb
              · exact hr.out j hj (by omega)
            rcases (of_decide_eq_true hb : (s[t - 1].toNat : Int) = 32 ∨ (s[t - 1].toNat : Int) = 9) with h2 | h2
            · have b1 : ((s[t - 1].toNat : Int) == 32) = true := by simp [h2]
              clear h2 hb
              go_wp2
              go_round
              case rel => exact ⟨t - 1, by omega, by omega, by go_num, N⟩
              case measure => simp [intOf]; omega
            · have b1 : ((s[t - 1].toNat : Int) == 32) = false := by simp [h2]
              have b2 : ((s[t - 1].toNat : Int) == 9) = true := by simp [h2]
              clear h2 hb
              go_wp2
              go_round
              case rel => exact ⟨t - 1, by omega, by omega, by go_num, N⟩
              case measure => simp [intOf]; omega
          · have hn : Hid (∀ (_ : k < t) (h : t - 1 < s.size), blankI (s[t - 1].toNat : Int) = false) := fun h h' => by
              cases e : blankI (s[t - 1].toNat : Int) with
              | false => rfl
              | true => exact absurd ⟨h, e⟩ hc
            clear hc
            have F : Hid (trimT s.data.toList = (s.data.toList.drop k).take (t - k)) := trim_is s k t hkt hts hl.out hf.out hr.out hn.out
            have hcut := cut_is s k t hkt hts w
            by_cases hkt2 : k < t
            · have hb := hn.out hkt2 (by omega)
              have b1 : ((s[t - 1].toNat : Int) == 32) = false := by unfold blankI at hb; simp at hb; simp; omega
              have b2 : ((s[t - 1].toNat : Int) == 9) = false := by unfold blankI at hb; simp at hb; simp; omega
              clear hb
              go_wp2
              go_ret
              rw [F.out]
              exact ⟨rfl, rfl⟩
            · go_wp2
              go_ret
              rw [F.out]
              exact ⟨rfl, rfl⟩
      · go_wp2
        go_loop [4] (fun i => i = .int .i64 s.size) (fun i => (intOf i).toNat)
        case atStart => rfl
        case round =>
          obtain rfl := hrel
          have F : Hid (trimT s.data.toList = (s.data.toList.drop k).take (s.size - k)) := trim_is s k s.size hk (Nat.le_refl _) hl.out hf.out (fun j hj h => by omega) (fun h h' => by omega)
          have hcut := cut_is s k s.size hk (Nat.le_refl _) w
          go_wp2
          go_ret
          rw [F.out]
          exact ⟨rfl, rfl⟩
end Go.Proofs.YtenegcoapejbmaaGreatDoor
namespace Go.Proofs.YtenegcoapejbmaaGreatDoor
open Go.RowKit
def marks : List Int := [33, 35, 36, 37, 38, 39, 42, 43, 45, 46, 94, 95, 96, 124, 126]
def marks14 : List Int := [33, 35, 36, 37, 38, 39, 42, 43, 45, 46, 94, 95, 124, 126]
def alnum (c : Int) : Bool := decide ((48 ≤ c ∧ c ≤ 57) ∨ (65 ≤ c ∧ c ≤ 90) ∨ (97 ≤ c ∧ c ≤ 122))
def tokI (c : Int) : Bool := alnum c || marks.contains c
theorem idx_marks : ∀ n : Nat, n < 256 → decide (0 ≤ Lib.indexByte [33, 35, 36, 37, 38, 39, 42, 43, 45, 46, 94, 95, 96, 124, 126] n.toUInt8) = marks.contains (n : Int) := by decide +kernel
theorem idx_marksI (c : Int) (h0 : 0 ≤ c) (h1 : c ≤ 255) : decide (0 ≤ Lib.indexByte [33, 35, 36, 37, 38, 39, 42, 43, 45, 46, 94, 95, 96, 124, 126] c.toNat.toUInt8) = marks.contains c := by
  obtain ⟨n, rfl⟩ := Int.eq_ofNat_of_zero_le h0
  exact idx_marks n (by omega)
theorem indexByteC (s : ByteArray) (c : Int) (w : World) :
    Calls Tryz.prog 129 #[.string s, .int .u8 c] w fun e w' => e = .returned (.int .i64 (Lib.indexByte s.data.toList c.toNat.toUInt8)) ∧ w' = w :=
  Any.strings_IndexByte Tryz.lays137 s c w
set_option maxHeartbeats 400000 in
theorem tokByteTok (c : Int) (h0 : 0 ≤ c) (h1 : c ≤ 255) (w : World) :
    Calls Tryz.prog 113 #[.int .u8 c] w fun e w' => e = .returned (.bool (tokI c)) ∧ w' = w := by
  by_cases ha : (48 ≤ c ∧ c ≤ 57) ∨ (65 ≤ c ∧ c ≤ 90) ∨ (97 ≤ c ∧ c ≤ 122)
  · have H : Hid (tokI c = true) := by unfold Hid tokI alnum; simp [ha]
    rcases ha with ⟨ha, hb⟩ | ⟨ha, hb⟩ | ⟨ha, hb⟩
    all_goals
      go_enter Tryz.func113, Tryz.ntmps113
      go_wp2
      go_ret
      rw [H.out]
      exact ⟨rfl, rfl⟩
  · have H : Hid (decide (0 ≤ Lib.indexByte [33, 35, 36, 37, 38, 39, 42, 43, 45, 46, 94, 95, 96, 124, 126] c.toNat.toUInt8) = tokI c) := by
      unfold Hid tokI alnum; rw [idx_marksI c h0 h1]; simp [ha]
    have hc := indexByteC ⟨#[33, 35, 36, 37, 38, 39, 42, 43, 45, 46, 94, 95, 96, 124, 126]⟩ c w
    change Calls Tryz.prog 129 _ w (fun e w' => e = .returned (.int .i64 (Lib.indexByte [33, 35, 36, 37, 38, 39, 42, 43, 45, 46, 94, 95, 96, 124, 126] c.toNat.toUInt8)) ∧ w' = w) at hc
    generalize Lib.indexByte [33, 35, 36, 37, 38, 39, 42, 43, 45, 46, 94, 95, 96, 124, 126] c.toNat.toUInt8 = r at H hc
    have HC := hc
    clear hc
    rcases (by omega : c < 48 ∨ (57 < c ∧ c < 65) ∨ (90 < c ∧ c < 97) ∨ 122 < c) with h | h | h | h
    all_goals
      clear ha
      go_enter Tryz.func113, Tryz.ntmps113
      go_wp2_with (go_at_call 129; refine HC.mono ?_; rintro e w' ⟨rfl, rfl⟩)
      go_ret
      rw [← H.out]
      exact ⟨rfl, rfl⟩
end Go.Proofs.YtenegcoapejbmaaGreatDoor
namespace Go.Proofs.YtenegcoapejbmaaGreatDoor
open Go.RowKit
/-- the marks' string, without the back quote -/
def mB (k : Nat) : Int := marks14.getD k 0
theorem mB_get (k : Nat) (h : k < (⟨#[33, 35, 36, 37, 38, 39, 42, 43, 45, 46, 94, 95, 124, 126]⟩ : ByteArray).size) : (((⟨#[33, 35, 36, 37, 38, 39, 42, 43, 45, 46, 94, 95, 124, 126]⟩ : ByteArray)[k]'h).toNat : Int) = mB k := by
  have : ∀ k : Fin 14, (((⟨#[33, 35, 36, 37, 38, 39, 42, 43, 45, 46, 94, 95, 124, 126]⟩ : ByteArray)[k.val]'(k.isLt)).toNat : Int) = mB k.val := by decide +kernel
  exact this ⟨k, h⟩
theorem marks_cases (c : Int) : marks.contains c = true ↔ (∃ k, k < 14 ∧ mB k = c) ∨ c = 96 := by
  constructor
  · intro h
    simp [marks] at h
    rcases h with h | h | h | h | h | h | h | h | h | h | h | h | h | h | h
    · exact .inl ⟨0, by omega, h.symm⟩
    · exact .inl ⟨1, by omega, h.symm⟩
    · exact .inl ⟨2, by omega, h.symm⟩
    · exact .inl ⟨3, by omega, h.symm⟩
    · exact .inl ⟨4, by omega, h.symm⟩
    · exact .inl ⟨5, by omega, h.symm⟩
    · exact .inl ⟨6, by omega, h.symm⟩
    · exact .inl ⟨7, by omega, h.symm⟩
    · exact .inl ⟨8, by omega, h.symm⟩
    · exact .inl ⟨9, by omega, h.symm⟩
    · exact .inl ⟨10, by omega, h.symm⟩
    · exact .inl ⟨11, by omega, h.symm⟩
    · exact .inr h
    · exact .inl ⟨12, by omega, h.symm⟩
    · exact .inl ⟨13, by omega, h.symm⟩
  · rintro (⟨k, hk, rfl⟩ | rfl)
    · have : ∀ k : Fin 14, marks.contains (mB k.val) = true := by decide +kernel
      exact this ⟨k, hk⟩
    · rfl
theorem tokI_hit (c : Int) (k : Nat) (hk : k < 14) (h : mB k = c) : tokI c = true := by
  unfold tokI; rw [(marks_cases c).2 (.inl ⟨k, hk, h⟩)]; simp
theorem tokI_end (c : Int) (ha : alnum c = false) (h : ∀ j, j < 14 → ¬ mB j = c) : tokI c = (c == 96) := by
  unfold tokI; rw [ha, Bool.false_or, Bool.eq_iff_iff, marks_cases]
  constructor
  · rintro (⟨k, hk, e⟩ | e)
    · exact absurd e (h k hk)
    · simp [e]
  · intro e; exact .inr (by simpa using e)
set_option maxHeartbeats 1000000 in
theorem tokByteRef (c : Int) (h0 : 0 ≤ c) (h1 : c ≤ 255) (w : World) :
    Calls Tryz.prog 84 #[.int .u8 c] w fun e w' => e = .returned (.bool (tokI c)) ∧ w' = w := by
  by_cases ha : (48 ≤ c ∧ c ≤ 57) ∨ (65 ≤ c ∧ c ≤ 90) ∨ (97 ≤ c ∧ c ≤ 122)
  · have H : Hid (tokI c = true) := by unfold Hid tokI alnum; simp [ha]
    rcases ha with ⟨ha, hb⟩ | ⟨ha, hb⟩ | ⟨ha, hb⟩
    all_goals
      go_enter Tryz.func84, Tryz.ntmps84
      go_wp2
      go_ret
      rw [H.out]
      exact ⟨rfl, rfl⟩
  · have HA : Hid (alnum c = false) := by unfold Hid alnum; simpa using ha
    have hg := mB_get
    rcases (by omega : c < 48 ∨ (57 < c ∧ c < 65) ∨ (90 < c ∧ c < 97) ∨ 122 < c) with h | h | h | h
    all_goals
      clear ha
      go_enter Tryz.func84, Tryz.ntmps84
      go_wp2
      go_loop [4] (fun i => ∃ k : Nat, k ≤ 14 ∧ i = .int .i64 k ∧ Hid (∀ j, j < k → ¬ mB j = c)) (fun i => 14 - (intOf i).toNat)
      case atStart => exact ⟨0, by omega, rfl, fun j hj => by omega⟩
      case round =>
        obtain ⟨k, hk, rfl, hn⟩ := hrel
        by_cases hlt : k < 14
        · by_cases he : mB k = c
          · have H : Hid (tokI c = true) := tokI_hit c k hlt he
            have b : (mB k == c) = true := by simp [he]
            clear he
            go_wp2
            go_ret
            rw [H.out]
            exact ⟨rfl, rfl⟩
          · have N : Hid (∀ j, j < k + 1 → ¬ mB j = c) := fun j hj => by
              by_cases e : j = k
              · rw [e]; exact he
              · exact hn.out j (by omega)
            have b : (mB k == c) = false := by simp [he]
            clear he
            go_wp2
            go_round
            case rel => exact ⟨k + 1, by omega, by go_num, N⟩
            case measure => simp [intOf]; omega
        · have H : Hid (tokI c = (c == 96)) := tokI_end c HA.out (fun j hj => hn.out j (by omega))
          go_wp2
          go_ret
          rw [H.out]
          exact ⟨rfl, rfl⟩
end Go.Proofs.YtenegcoapejbmaaGreatDoor
namespace Go.Proofs.YtenegcoapejbmaaGreatDoor
open Go.RowKit
def isTok (l : List UInt8) : Bool := !l.isEmpty && l.all (fun c => tokI (c.toNat : Int))
theorem isTok_bad (s : ByteArray) (k : Nat) (h : k < s.size) (hc : tokI (s[k].toNat : Int) = false) : isTok s.data.toList = false := by
  unfold isTok
  have : s.data.toList.all (fun c => tokI (c.toNat : Int)) = false := by
    rw [List.all_eq_false]; exact ⟨s.data.toList[k]'(by simpa using h), List.getElem_mem _, by rw [show s.data.toList[k]'(by simpa using h) = s[k] from rfl, hc]; simp⟩
  rw [this, Bool.and_false]
theorem isTok_good (s : ByteArray) (h0 : 0 < s.size) (h : ∀ j (hj : j < s.size), tokI (s[j].toNat : Int) = true) : isTok s.data.toList = true := by
  unfold isTok
  rw [Bool.and_eq_true]
  constructor
  · cases e : s.data.toList with
    | nil => have : s.data.toList.length = s.size := by simp
             rw [e] at this; simp at this; omega
    | cons c l => rfl
  · rw [List.all_eq_true]
    intro c hc
    obtain ⟨j, hj, rfl⟩ := List.getElem_of_mem hc
    exact h j (by simpa using hj)
theorem empty_of (s : ByteArray) (h : s.size = 0) : s = ⟨#[]⟩ := by
  apply ByteArray.ext
  exact Array.eq_empty_of_size_eq_zero h
theorem ne_empty (s : ByteArray) (h : 0 < s.size) : s.toList.isEmpty = false := by
  rw [Lib.toList_data]
  cases e : s.data.toList with
  | nil => have : s.data.toList.length = s.size := by simp
           rw [e] at this; simp at this; omega
  | cons _ _ => rfl
def allK (s : ByteArray) (k : Nat) : Prop := ∀ j (hj : j < s.size), j < k → tokI (s[j].toNat : Int) = true
theorem allK_succ {s : ByteArray} {k : Nat} (h : allK s k) (hk : k < s.size) (hc : tokI (s[k].toNat : Int) = true) : allK s (k + 1) := by
  intro j hj hjk
  by_cases e : j = k
  · subst e; exact hc
  · exact h j hj (by omega)
set_option maxHeartbeats 1000000 in
theorem tokenTok (s : ByteArray) (w : World) (hs : s.size ≤ 140737488351232) :
    Calls Tryz.prog 85 #[.string s] w fun e w' => e = .returned (.bool (isTok s.data.toList)) ∧ w' = w := by
  by_cases h0 : s.size = 0
  · obtain rfl := empty_of s h0
    clear h0 hs
    go_enter Tryz.func85, Tryz.ntmps85
    go_wp2
    go_rounds 1
    go_ret
    exact ⟨rfl, rfl⟩
  · have hp : 0 < s.size := by omega
    have hne := ne_empty s hp
    clear h0
    go_enter Tryz.func85, Tryz.ntmps85
    go_wp2
    go_loop [6] (fun i => ∃ k : Nat, k ≤ s.size ∧ i = .int .i64 k ∧ Hid (allK s k)) (fun i => s.size - (intOf i).toNat)
    case atStart => exact ⟨0, by omega, rfl, fun j _ hj => by omega⟩
    case round =>
      obtain ⟨k, hk, rfl, ha⟩ := hrel
      by_cases hlt : k < s.size
      · have hb := byte_lt s[k]
        cases ht : tokI (s[k].toNat : Int) with
        | true =>
          have A : Hid (allK s (k + 1)) := allK_succ ha.out hlt ht
          go_wp2_with (go_at_call 113; refine (tokByteTok _ (by omega) (by omega) _).mono ?_; rintro e w' ⟨rfl, rfl⟩)
          go_round
          case rel => exact ⟨k + 1, by omega, by go_num, A⟩
          case measure => simp [intOf]; omega
        | false =>
          have F : Hid (isTok s.data.toList = false) := isTok_bad s k hlt ht
          go_wp2_with (go_at_call 113; refine (tokByteTok _ (by omega) (by omega) _).mono ?_; rintro e w' ⟨rfl, rfl⟩)
          go_ret
          rw [F.out]
          exact ⟨rfl, rfl⟩
      · have F : Hid (isTok s.data.toList = true) := isTok_good s hp (fun j hj => ha.out j hj (by omega))
        go_wp2
        go_ret
        rw [F.out]
        exact ⟨rfl, rfl⟩
end Go.Proofs.YtenegcoapejbmaaGreatDoor
namespace Go.Proofs.YtenegcoapejbmaaGreatDoor
open Go.RowKit
set_option maxHeartbeats 1000000 in
theorem tokenRef (s : ByteArray) (w : World) (hs : s.size ≤ 140737488351232) :
    Calls Tryz.prog 66 #[.string s] w fun e w' => e = .returned (.bool (isTok s.data.toList)) ∧ w' = w := by
  by_cases h0 : s.size = 0
  · obtain rfl := empty_of s h0
    clear h0 hs
    go_enter Tryz.func66, Tryz.ntmps66
    go_wp2
    go_rounds 1
    go_ret
    exact ⟨rfl, rfl⟩
  · have hp : 0 < s.size := by omega
    have hne := ne_empty s hp
    clear h0
    go_enter Tryz.func66, Tryz.ntmps66
    go_wp2
    go_loop [3] (fun i => ∃ k : Nat, k ≤ s.size ∧ i = .int .i64 k ∧ Hid (allK s k)) (fun i => s.size - (intOf i).toNat)
    case atStart => exact ⟨0, by omega, rfl, fun j _ hj => by omega⟩
    case round =>
      obtain ⟨k, hk, rfl, ha⟩ := hrel
      by_cases hlt : k < s.size
      · have hb := byte_lt s[k]
        cases ht : tokI (s[k].toNat : Int) with
        | true =>
          have A : Hid (allK s (k + 1)) := allK_succ ha.out hlt ht
          go_wp2_with (go_at_call 84; refine (tokByteRef _ (by omega) (by omega) _).mono ?_; rintro e w' ⟨rfl, rfl⟩)
          go_round
          case rel => exact ⟨k + 1, by omega, by go_num, A⟩
          case measure => simp [intOf]; omega
        | false =>
          have F : Hid (isTok s.data.toList = false) := isTok_bad s k hlt ht
          go_wp2_with (go_at_call 84; refine (tokByteRef _ (by omega) (by omega) _).mono ?_; rintro e w' ⟨rfl, rfl⟩)
          go_ret
          rw [F.out]
          exact ⟨rfl, rfl⟩
      · have F : Hid (isTok s.data.toList = true) := isTok_good s hp (fun j hj => ha.out j hj (by omega))
        go_wp2
        go_ret
        rw [F.out]
        exact ⟨rfl, rfl⟩
end Go.Proofs.YtenegcoapejbmaaGreatDoor
namespace Go.Proofs.YtenegcoapejbmaaGreatDoor
open Go.RowKit
def low (c : UInt8) : UInt8 := if 65 ≤ (c.toNat : Int) ∧ (c.toNat : Int) ≤ 90 then c + 32 else c
def lows (l : List UInt8) : List UInt8 := l.map low
theorem low_up (c : UInt8) (h1 : 65 ≤ (c.toNat : Int)) (h2 : (c.toNat : Int) ≤ 90) : ((low c).toNat : Int) = (c.toNat : Int) + 32 := by
  unfold low; rw [if_pos ⟨h1, h2⟩, UInt8.toNat_add]
  have : (32 : UInt8).toNat = 32 := rfl
  rw [this]; omega
theorem low_same (c : UInt8) (h : ¬ (65 ≤ (c.toNat : Int) ∧ (c.toNat : Int) ≤ 90)) : low c = c := by unfold low; rw [if_neg h]
theorem lows_snoc (l : List UInt8) (c : UInt8) : lows (l ++ [c]) = lows l ++ [low c] := by simp [lows]
theorem lows_len (l : List UInt8) : (lows l).length = l.length := by simp [lows]
/-- byte j behind k rounds of Fold -/
def mixed (s : ByteArray) (k j : Nat) : UInt8 := if h : j < s.size then (if j < k then low s[j] else s[j]) else 0
theorem conv_bytes (s : ByteArray) (w : World) : ∃ (cap : Nat) (w1 : World), Sem.run Tryz.prog (convert 9 22 (.string s)) w = .ok (.slice (some ⟨w.heap.size, 0, none⟩) s.size cap) w1 ∧
    (∀ j, j < s.size → w1.cell? ⟨w.heap.size, j, none⟩ = some (.int .u8 ((mixed s 0 j).toNat : Int))) ∧ (∀ j, j < s.size → w1.frozen? ⟨w.heap.size, j, none⟩ = false) ∧ Below w.heap.size w w1 ∧ w.heap.size < w1.heap.size := by
  refine ⟨_, _, run_bytes_of_string w 9 22 5 s Tryz.underlying9 Tryz.underlying22 Tryz.underlying5, ?_, ?_, ?_, ?_⟩
  · intro j hj
    have := cell_of_row (w.drew.alloc (.cells (bytesRow s (grownCap w s.size 0 5)) 5 ((bytesRow s (grownCap w s.size 0 5)).size, (bytesRow s (grownCap w s.size 0 5)).size + 1))) w.heap.size j _ 5 _ (heap_alloc_new w.drew _)
    rw [this, bytesRow_at s _ j hj]
    unfold mixed
    rw [dif_pos hj, if_neg (by omega)]
    rfl
  · intro j hj
    have hsz : s.size ≤ (bytesRow s (grownCap w s.size 0 5)).size := by unfold bytesRow; rw [Array.size_append, Array.size_map]; exact Nat.le_add_right _ _
    unfold World.frozen?
    rw [show (w.drew.alloc (.cells (bytesRow s (grownCap w s.size 0 5)) 5 ((bytesRow s (grownCap w s.size 0 5)).size, (bytesRow s (grownCap w s.size 0 5)).size + 1))).heap[w.heap.size]? = _ from heap_alloc_new w.drew _]
    simp
    omega
  · exact ((Below.refl _ _).drew).alloc (Nat.le_refl _) _
  · simp
theorem conv_back (w : World) (g cap : Nat) (l : List UInt8) (h : ∀ j (hj : j < l.length), w.cell? ⟨g, j, none⟩ = some (.int .u8 (l[j].toNat : Int))) :
    Sem.run Tryz.prog (convert 22 9 (.slice (some ⟨g, 0, none⟩) l.length cap)) w = .ok (.string ⟨l.toArray⟩) w := by
  rw [run_convert_bytes_back w 22 9 5 ⟨g, 0, none⟩ cap l Tryz.underlying22 Tryz.underlying5 Tryz.underlying9 (fun j hj => by rw [show (⟨g, 0, none⟩ : Addr).add j = ⟨g, j, none⟩ from by simp [Addr.add]; intro e; exact e.symm]; exact h j hj)]
theorem mixed_now (s : ByteArray) (k : Nat) (h : k < s.size) : mixed s k k = s[k] := by unfold mixed; rw [dif_pos h, if_neg (by omega)]
theorem mixed_same (s : ByteArray) (k j : Nat) (h : j ≠ k) : mixed s (k + 1) j = mixed s k j := by
  unfold mixed
  by_cases hj : j < s.size
  · rw [dif_pos hj, dif_pos hj]
    by_cases hk : j < k
    · rw [if_pos hk, if_pos (by omega)]
    · rw [if_neg hk, if_neg (by omega)]
  · rw [dif_neg hj, dif_neg hj]
theorem mixed_next (s : ByteArray) (k : Nat) (h : k < s.size) : mixed s (k + 1) k = low s[k] := by unfold mixed; rw [dif_pos h, if_pos (by omega)]
theorem mixed_end (s : ByteArray) (j : Nat) (h : j < s.size) (k : Nat) (hk : s.size ≤ k) : mixed s k j = low s[j] := by unfold mixed; rw [dif_pos h, if_pos (by omega)]
/-- what holds of the row behind k rounds -/
def Mix (s : ByteArray) (w0 : World) (k : Nat) (w : World) : Prop :=
  (∀ j, j < s.size → w.cell? ⟨w0.heap.size, j, none⟩ = some (.int .u8 ((mixed s k j).toNat : Int))) ∧ (∀ j, j < s.size → w.frozen? ⟨w0.heap.size, j, none⟩ = false) ∧ Below w0.heap.size w0 w ∧ w0.heap.size < w.heap.size
theorem mix_store {s : ByteArray} {w0 w : World} {k : Nat} (h : Mix s w0 k w) (hk : k < s.size) (n : Int) (hn : n = ((low s[k]).toNat : Int)) : Mix s w0 (k + 1) (w.setCell ⟨w0.heap.size, k, none⟩ (.int .u8 n)) := by
  obtain ⟨a, b, c, d⟩ := h
  refine ⟨fun j hj => ?_, fun j hj => ?_, c.setCell (Nat.le_refl _) _, by simpa [World.setCell] using d⟩
  · by_cases e : j = k
    · subst e
      rw [World.cell?_setCell_same _ _ _ (a j hj), mixed_next s j hj, hn]
    · rw [World.cell?_setCell_other _ _ _ _ (fun x => e (by simpa using x.symm)), a j hj, mixed_same s k j e]
  · rw [World.frozen?_setCell]; exact b j hj
theorem mix_keep {s : ByteArray} {w0 w : World} {k : Nat} (h : Mix s w0 k w) (hk : k < s.size) (hl : low s[k] = s[k]) : Mix s w0 (k + 1) w := by
  obtain ⟨a, b, c, d⟩ := h
  refine ⟨fun j hj => ?_, b, c, d⟩
  by_cases e : j = k
  · subst e; rw [a j hj, mixed_next s j hj, hl, mixed_now s j hj]
  · rw [a j hj, mixed_same s k j e]
end Go.Proofs.YtenegcoapejbmaaGreatDoor
namespace Go.Proofs.YtenegcoapejbmaaGreatDoor
open Go.RowKit
def valsOf (fs : FL) (n : List UInt8) : List (List UInt8) := (fs.filter (fun f => decide (lows f.1 = lows n))).map (fun f => f.2)
def withoutOf (fs : FL) (ns : List (List UInt8)) : FL := fs.filter (fun f => decide (lows f.1 ∉ ns.map lows))
def putOf (fs : FL) (n v : List UInt8) : FL := withoutOf fs [n] ++ [(n, v)]
/-- each text of each field is no longer than a text can be -/
def Fit (fs : FL) : Prop := ∀ f ∈ fs, f.1.length ≤ 140737488351232 ∧ f.2.length ≤ 140737488351232
theorem fit_at {fs : FL} (h : Fit fs) (k : Nat) (hk : k < fs.length) : (fs[k]).1.length ≤ 140737488351232 ∧ (fs[k]).2.length ≤ 140737488351232 := h _ (List.getElem_mem hk)
theorem fit_without {fs : FL} (h : Fit fs) (ns : List (List UInt8)) : Fit (withoutOf fs ns) := fun f hf => h f (List.mem_filter.1 hf).1
theorem fit_put {fs : FL} (h : Fit fs) {n v : List UInt8} (hn : n.length ≤ 140737488351232) (hv : v.length ≤ 140737488351232) : Fit (putOf fs n v) := by
  intro f hf
  rcases List.mem_append.1 hf with hf | hf
  · exact fit_without h _ f hf
  · obtain rfl := List.mem_singleton.1 hf; exact ⟨hn, hv⟩
theorem vals_len (fs : FL) (n : List UInt8) : (valsOf fs n).length ≤ fs.length := by
  unfold valsOf; rw [List.length_map]; exact List.length_filter_le _ _
theorem without_len (fs : FL) (ns : List (List UInt8)) : (withoutOf fs ns).length ≤ fs.length := List.length_filter_le _ _
theorem put_len (fs : FL) (n v : List UInt8) : (putOf fs n v).length ≤ fs.length + 1 := by
  have := without_len fs [n]
  unfold putOf; rw [List.length_append]; simp; omega
theorem vals_hit (fs : FL) (n : List UInt8) (k : Nat) (hk : k < fs.length) (h : lows (fs[k]).1 = lows n) : valsOf (fs.take (k + 1)) n = valsOf (fs.take k) n ++ [(fs[k]).2] := by
  unfold valsOf
  rw [List.take_succ_eq_append_getElem hk, List.filter_append, List.map_append]
  simp [h]
theorem vals_miss (fs : FL) (n : List UInt8) (k : Nat) (hk : k < fs.length) (h : ¬ lows (fs[k]).1 = lows n) : valsOf (fs.take (k + 1)) n = valsOf (fs.take k) n := by
  unfold valsOf
  rw [List.take_succ_eq_append_getElem hk, List.filter_append, List.map_append]
  simp [h]
theorem without_hit (fs : FL) (ns : List (List UInt8)) (k : Nat) (hk : k < fs.length) (h : lows (fs[k]).1 ∈ ns.map lows) : withoutOf (fs.take (k + 1)) ns = withoutOf (fs.take k) ns := by
  unfold withoutOf
  rw [List.take_succ_eq_append_getElem hk, List.filter_append]
  have : decide (lows (fs[k]).1 ∉ ns.map lows) = false := by simpa using h
  simp only [List.filter_cons, this, List.filter_nil]
  simp
theorem without_miss (fs : FL) (ns : List (List UInt8)) (k : Nat) (hk : k < fs.length) (h : lows (fs[k]).1 ∉ ns.map lows) : withoutOf (fs.take (k + 1)) ns = withoutOf (fs.take k) ns ++ [fs[k]] := by
  unfold withoutOf
  rw [List.take_succ_eq_append_getElem hk, List.filter_append]
  have : decide (lows (fs[k]).1 ∉ ns.map lows) = true := by simpa using h
  simp only [List.filter_cons, this, List.filter_nil]
  simp
theorem vals_without (fs : FL) (n : List UInt8) : valsOf (withoutOf fs [n]) n = [] := by
  unfold valsOf withoutOf
  rw [List.filter_filter, List.filter_eq_nil_iff.2, List.map_nil]
  intro f _
  simp
theorem vals_put (fs : FL) (n v : List UInt8) : valsOf (putOf fs n v) n = [v] := by
  have h := vals_without fs n
  unfold valsOf at h ⊢
  unfold putOf
  rw [List.filter_append, List.map_append, h]
  simp
theorem vals_put_other (fs : FL) (n v o : List UInt8) (hne : ¬ lows o = lows n) : valsOf (putOf fs n v) o = valsOf fs o := by
  unfold valsOf putOf withoutOf
  rw [List.filter_append, List.map_append, List.filter_filter]
  have h1 : decide (lows (n, v).1 = lows o) = false := by simpa using fun e => hne e.symm
  have h2 : (List.filter (fun f : List UInt8 × List UInt8 => decide (lows f.1 = lows o)) [(n, v)]) = [] := by
    simp only [List.filter_cons, h1, List.filter_nil]; simp
  rw [h2, List.map_nil, List.append_nil]
  congr 1
  apply List.filter_congr
  intro f _
  by_cases e : lows f.1 = lows o
  · simp [e]
    exact hne
  · simp [e]
theorem vals_without_put (fs : FL) (n v : List UInt8) : valsOf (withoutOf (putOf fs n v) [n]) n = [] := vals_without _ _
end Go.Proofs.YtenegcoapejbmaaGreatDoor
namespace Go.Proofs.YtenegcoapejbmaaGreatDoor
open Go.RowKit
/-- a text as the cell that holds it -/
def S (l : List UInt8) : Value := .string ⟨l.toArray⟩
theorem Tryz.info9 : (Tryz.prog.info? 9).map (fun i => (i.zero, i.size, i.bytes)) = some (some (.string ⟨#[]⟩), 1, 16) := by kernel_rfl
/-- v holds just the texts ss, in a row of the call's own; what lay below is as it was -/
def OwnS (w0 : World) (v : Value) (ss : List (List UInt8)) (w : World) : Prop := w.ownsRow w0.heap.size 9 1 v ss.length (ss.map S) ∧ Below w0.heap.size w0 w
theorem ownS_nil (w0 w : World) (h : Below w0.heap.size w0 w) : OwnS w0 (.slice none 0 0) [] w := ⟨World.ownsRow_nil _ _ _ _, h⟩
theorem ownS_empty (w0 : World) : OwnS w0 (.slice (some ⟨w0.heap.size, 0, none⟩) 0 0) [] (w0.alloc (.cells #[] 9)) :=
  ⟨World.ownsRow_lit w0 #[] 0 (Nat.le_refl _) (by decide) rfl, (Below.refl _ _).alloc (Nat.le_refl _) _⟩
theorem ownS_mono {w0 w w' : World} {v : Value} {ss : List (List UInt8)} (h : OwnS w0 v ss w) (hb : Below w.heap.size w w') : OwnS w0 v ss w' := by
  have hz := h.2.size
  refine ⟨?_, h.2.trans (hb.mono hz)⟩
  obtain ⟨hl, h1 | ⟨g, cap, cur, rfl, hg, hh, hr⟩⟩ := h.1
  · exact ⟨hl, .inl h1⟩
  · have hlt : g < w.heap.size := by
      rcases Nat.lt_or_ge g w.heap.size with h | h
      · exact h
      · rw [Array.getElem?_eq_none (by omega)] at hh; cases hh
    exact ⟨hl, .inr ⟨g, cap, cur, rfl, hg, by rw [hb.block g hlt]; exact hh, hr⟩⟩
/-- v is a slice whose elements are the texts ss -/
def Holds (w : World) (v : Value) (ss : List (List UInt8)) : Prop :=
  ∃ ao cap, v = .slice ao ss.length cap ∧ (ss ≠ [] → ∃ b off, ao = some ⟨b, off, none⟩ ∧ b < w.heap.size ∧ ∀ j (h : j < ss.length), w.cell? ⟨b, off + j, none⟩ = some (S ss[j]))
theorem holds_own {w0 w : World} {v : Value} {ss : List (List UInt8)} (h : OwnS w0 v ss w) : Holds w v ss := by
  obtain ⟨hl, h1 | ⟨g, cap, cur, rfl, hg, hh, hr⟩⟩ := h.1
  · obtain ⟨rfl, hn⟩ := h1
    obtain rfl : ss = [] := List.eq_nil_of_length_eq_zero hn
    exact ⟨none, 0, rfl, fun h => absurd rfl h⟩
  · refine ⟨_, cap, rfl, fun _ => ⟨g, 0, rfl, (h.1.lt g rfl).2, fun j hj => ?_⟩⟩
    rw [Nat.zero_add, h.1.cellAt j (by omega)]
    simp [hj]
theorem holds_mono {w w' : World} {v : Value} {ss : List (List UInt8)} (h : Holds w v ss) (hb : Below w.heap.size w w') : Holds w' v ss := by
  obtain ⟨ao, cap, rfl, hc⟩ := h
  refine ⟨ao, cap, rfl, fun hne => ?_⟩
  obtain ⟨b, off, rfl, hlt, hcell⟩ := hc hne
  have := hb.size
  exact ⟨b, off, rfl, by omega, fun j hj => by rw [hb.cell (p := ⟨b, off + j, none⟩) hlt]; exact hcell j hj⟩
theorem holds_lit3 (w : World) (x y z : List UInt8) : Holds (w.alloc (.cells #[S x, S y, S z] 9)) (.slice (some ⟨w.heap.size, 0, none⟩) 3 3) [x, y, z] := by
  refine ⟨_, 3, rfl, fun _ => ⟨w.heap.size, 0, rfl, by simp, fun j hj => ?_⟩⟩
  match j, hj with
  | 0, _ => simp
  | 1, _ => simp
  | 2, _ => simp
theorem holds_lit1 (w : World) (x : List UInt8) : Holds (w.alloc (.cells #[S x] 9)) (.slice (some ⟨w.heap.size, 0, none⟩) 1 1) [x] := by
  refine ⟨_, 1, rfl, fun _ => ⟨w.heap.size, 0, rfl, by simp, fun j hj => ?_⟩⟩
  match j, hj with
  | 0, _ => simp
theorem ownS_base {w w1 w2 : World} {v : Value} {ss : List (List UInt8)} (h : OwnS w1 v ss w2) (hb : Below w.heap.size w w1) : OwnS w v ss w2 := by
  have hz := hb.size
  refine ⟨?_, hb.trans (h.2.mono hz)⟩
  obtain ⟨hl, h1 | ⟨g, cap, cur, hv, hg, hr⟩⟩ := h.1
  · exact ⟨hl, .inl h1⟩
  · exact ⟨hl, .inr ⟨g, cap, cur, hv, by omega, hr⟩⟩
theorem below_drawn {B : Nat} {a w : World} (h : Below B a w) (n : Nat) : Below B a (w.drewN n) := by
  induction n with
  | zero => exact h
  | succ n ih => exact ih.drew
theorem below_drewN (w : World) (n : Nat) : Below w.heap.size w (w.drewN n) := by
  induction n with
  | zero => exact Below.refl _ _
  | succ n ih => exact ih.drew
end Go.Proofs.YtenegcoapejbmaaGreatDoor
namespace Go.Proofs.YtenegcoapejbmaaGreatDoor
open Go.RowKit
def cellsF (ps : FL) : List Value := ps.flatMap (fun p => [S p.1, S p.2])
theorem cellsF_len (ps : FL) : (cellsF ps).length = ps.length * 2 := by
  induction ps with
  | nil => rfl
  | cons p ps ih => simp only [cellsF, List.flatMap_cons, List.length_append, List.length_cons, List.length_nil] at ih ⊢; omega
theorem cellsF_snoc (ps : FL) (p : List UInt8 × List UInt8) : cellsF (ps ++ [p]) = cellsF ps ++ [S p.1, S p.2] := by simp [cellsF]
theorem cellsF_append (ps qs : FL) : cellsF (ps ++ qs) = cellsF ps ++ cellsF qs := by simp [cellsF]
theorem cellsF_at : ∀ (ps : FL) (j : Nat) (h : j < ps.length), (cellsF ps)[j * 2]? = some (S ps[j].1) ∧ (cellsF ps)[j * 2 + 1]? = some (S ps[j].2) := by
  intro ps
  induction ps with
  | nil => intro j h; simp at h
  | cons p ps ih =>
    intro j h
    have e : cellsF (p :: ps) = S p.1 :: S p.2 :: cellsF ps := by simp [cellsF]
    rw [e]
    cases j with
    | zero => simp
    | succ j =>
      have := ih j (by simpa using h)
      rw [show (j + 1) * 2 = j * 2 + 2 by omega]
      simpa using this
theorem cellsF_one (ps : FL) : ∀ u ∈ cellsF ps, u.oneCell' = true := by
  intro u hu
  obtain ⟨p, _, hu⟩ := List.mem_flatMap.1 hu
  simp at hu; rcases hu with rfl | rfl <;> rfl
theorem Tryz.info76 : (Tryz.prog.info? 76).map (fun i => (i.zero, i.size, i.bytes)) = some (some (.agg #[.string ⟨#[]⟩, .string ⟨#[]⟩]), 2, 32) := by kernel_rfl
def OwnF (w0 : World) (v : Value) (ps : FL) (w : World) : Prop := w.ownsRow w0.heap.size 76 2 v ps.length (cellsF ps) ∧ Below w0.heap.size w0 w
theorem ownF_nil (w0 w : World) (h : Below w0.heap.size w0 w) : OwnF w0 (.slice none 0 0) [] w := ⟨World.ownsRow_nil _ _ _ _, h⟩
theorem ownF_empty (w0 : World) : OwnF w0 (.slice (some ⟨w0.heap.size, 0, none⟩) 0 0) [] (w0.alloc (.cells #[] 76)) :=
  ⟨World.ownsRow_lit w0 #[] 0 (Nat.le_refl _) (by decide) rfl, (Below.refl _ _).alloc (Nat.le_refl _) _⟩
theorem ownF_mono {w0 w w' : World} {v : Value} {ps : FL} (h : OwnF w0 v ps w) (hb : Below w.heap.size w w') : OwnF w0 v ps w' := by
  have hz := h.2.size
  refine ⟨?_, h.2.trans (hb.mono hz)⟩
  obtain ⟨hl, h1 | ⟨g, cap, cur, rfl, hg, hh, hr⟩⟩ := h.1
  · exact ⟨hl, .inl h1⟩
  · have hlt : g < w.heap.size := by
      rcases Nat.lt_or_ge g w.heap.size with h | h
      · exact h
      · rw [Array.getElem?_eq_none (by omega)] at hh; cases hh
    exact ⟨hl, .inr ⟨g, cap, cur, rfl, hg, by rw [hb.block g hlt]; exact hh, hr⟩⟩
theorem ownF_base {w w1 w2 : World} {v : Value} {ps : FL} (h : OwnF w1 v ps w2) (hb : Below w.heap.size w w1) : OwnF w v ps w2 := by
  have hz := hb.size
  refine ⟨?_, hb.trans (h.2.mono hz)⟩
  obtain ⟨hl, h1 | ⟨g, cap, cur, hv, hg, hr⟩⟩ := h.1
  · exact ⟨hl, .inl h1⟩
  · exact ⟨hl, .inr ⟨g, cap, cur, hv, by omega, hr⟩⟩
/-- v is a slice whose elements are the fields ps -/
def HoldsF (w : World) (v : Value) (ps : FL) : Prop :=
  ∃ ao cap, v = .slice ao ps.length cap ∧ (ao = none → cap = 0) ∧ ps.length ≤ cap ∧ (ps ≠ [] → ∃ b off, ao = some ⟨b, off, none⟩ ∧ b < w.heap.size ∧ ∀ j (h : j < ps.length), w.cell? ⟨b, off + j * 2, none⟩ = some (S ps[j].1) ∧ w.cell? ⟨b, off + j * 2 + 1, none⟩ = some (S ps[j].2))
theorem holdsF_own {w0 w : World} {v : Value} {ps : FL} (h : OwnF w0 v ps w) : HoldsF w v ps := by
  obtain ⟨hl, h1 | ⟨g, cap, cur, rfl, hg, hh, hr⟩⟩ := h.1
  · obtain ⟨rfl, hn⟩ := h1
    obtain rfl : ps = [] := List.eq_nil_of_length_eq_zero hn
    exact ⟨none, 0, rfl, fun _ => rfl, Nat.le_refl _, fun h => absurd rfl h⟩
  · refine ⟨_, cap, rfl, fun e => (by cases e), hr.1, fun _ => ⟨g, 0, rfl, (h.1.lt g rfl).2, fun j hj => ?_⟩⟩
    have c := cellsF_at ps j hj
    rw [Nat.zero_add]
    exact ⟨by rw [h.1.cellAt (j * 2) (by omega)]; exact c.1, by rw [h.1.cellAt (j * 2 + 1) (by omega)]; exact c.2⟩
theorem holdsF_mono {w w' : World} {v : Value} {ps : FL} (h : HoldsF w v ps) (hb : Below w.heap.size w w') : HoldsF w' v ps := by
  obtain ⟨ao, cap, rfl, h0, hcp, hc⟩ := h
  refine ⟨ao, cap, rfl, h0, hcp, fun hne => ?_⟩
  obtain ⟨b, off, rfl, hlt, hcell⟩ := hc hne
  have := hb.size
  exact ⟨b, off, rfl, by omega, fun j hj => ⟨by rw [hb.cell (p := ⟨b, off + j * 2, none⟩) hlt]; exact (hcell j hj).1, by rw [hb.cell (p := ⟨b, off + j * 2 + 1, none⟩) hlt]; exact (hcell j hj).2⟩⟩
theorem bt' {w W W' : World} (a : Below w.heap.size w W) (b : Below W.heap.size W W') : Below w.heap.size w W' := a.trans (b.mono a.size)
/-- one field appended -/
theorem appF {ops : Array Oper} {rest : List Oper} {o : Oper} {a : Act} {Q : Exit → Act → World → Prop} {wr : World} {x y : ByteArray} {H : Nat} (hgd : o.guard = none) (s z : Operand)
    (ho : o.op = .call { callee := .builtin .append, args := #[s, z], argTypes := #[25, 25] }) (w0 : World) (v : Value) (ps : FL) (hs : a.eval s = v) (hown : OwnF w0 v ps wr)
    (p : List UInt8 × List UInt8) (hx : x = ⟨p.1.toArray⟩) (hy : y = ⟨p.2.toArray⟩) (hz : a.eval z = .slice (some ⟨H, 0, none⟩) 1 1) (hH : wr.heap.size = H) (hlen : (ps.length + 1) * 32 ≤ 140737488355328)
    (h : ∀ v' w', OwnF w0 v' (ps ++ [p]) w' → wpList Tryz.prog ops Q rest (a.put o.dst v') w') : wpList Tryz.prog ops Q (o :: rest) a (wr.alloc (.cells #[.string x, .string y] 76)) := by
  subst hx hy hH
  obtain ⟨i0, hi, hz0, hz1, hz2⟩ := info_parts Tryz.info76
  have hsz := hown.2.size
  refine wpList_append_own _ hgd s z 25 ho w0.heap.size 76 i0 (.agg #[.string ⟨#[]⟩, .string ⟨#[]⟩]) 2 32 Tryz.underlying25 hi hz0 hz1 hz2 rfl (by decide) v ps.length (cellsF ps) hs (hown.1.alloc _) ⟨wr.heap.size, 0, none⟩ 1 1 [S p.1, S p.2] hz rfl ?_ ?_ ?_ ?_ ?_ ?_
  · intro j u hj
    match j, hj with
    | 0, hj => simp at hj; subst hj; simp [Addr.add, S]
    | 1, hj => simp at hj; subst hj; simp [Addr.add, S]
  · intro u hu; simp at hu; rcases hu with rfl | rfl <;> rfl
  · unfold maxLen; omega
  · omega
  · simp; omega
  · intro v' w' h1 h2 _
    refine h v' w' ⟨by rw [cellsF_snoc]; simpa using h1, ?_⟩
    refine Below.grown (hown.2.alloc (by omega) _) h2 (by simp; omega) ?_
    intro k hk
    exact (hown.1.lt k hk).1
/-- a whole list of fields appended -/
theorem appAllF {ops : Array Oper} {rest : List Oper} {o : Oper} {a : Act} {Q : Exit → Act → World → Prop} {wr : World} (hgd : o.guard = none) (s z : Operand)
    (ho : o.op = .call { callee := .builtin .append, args := #[s, z], argTypes := #[25, 25] }) (w0 : World) (v : Value) (ps : FL) (hs : a.eval s = v) (hown : OwnF w0 v ps wr)
    (u : Value) (qs : FL) (hz : a.eval z = u) (hu : HoldsF wr u qs) (hlen : (ps.length + qs.length) * 32 ≤ 140737488355328)
    (h : ∀ v' w', OwnF w0 v' (ps ++ qs) w' → wpList Tryz.prog ops Q rest (a.put o.dst v') w') : wpList Tryz.prog ops Q (o :: rest) a wr := by
  obtain ⟨i0, hi, hz0, hz1, hz2⟩ := info_parts Tryz.info76
  have hsz := hown.2.size
  obtain ⟨ao, cap, rfl, h0, hcp, hc⟩ := hu
  have key : ∀ (ad : Addr), ao = some ad → (∀ j x, (cellsF qs)[j]? = some x → wr.cell? (ad.add j) = some x) → wpList Tryz.prog ops Q (o :: rest) a wr := by
    intro ad e hnews
    subst e
    refine wpList_append_own _ hgd s z 25 ho w0.heap.size 76 i0 (.agg #[.string ⟨#[]⟩, .string ⟨#[]⟩]) 2 32 Tryz.underlying25 hi hz0 hz1 hz2 rfl (by decide) v ps.length (cellsF ps) hs hown.1 ad qs.length cap (cellsF qs) hz (cellsF_len qs) hnews (cellsF_one qs) (by unfold maxLen; omega) (by omega) hsz ?_
    intro v' w' h1 h2 _
    refine h v' w' ⟨by rw [cellsF_append, List.length_append]; exact h1, ?_⟩
    refine Below.grown hown.2 h2 (by omega) ?_
    intro k hk
    exact (hown.1.lt k hk).1
  by_cases hq : qs = []
  · subst hq
    cases ao with
    | none =>
      obtain rfl := h0 rfl
      refine wpList_append_own_none hgd s z 25 ho w0.heap.size 76 i0 2 Tryz.underlying25 hi v ps.length (cellsF ps) hs hown.1 hz ?_
      exact h v wr (by rw [List.append_nil]; exact hown)
    | some ad => exact key ad rfl (fun j x hj => by simp [cellsF] at hj)
  · obtain ⟨b, off, rfl, hlt, hcell⟩ := hc hq
    refine key ⟨b, off, none⟩ rfl (fun j x hj => ?_)
    have hjl : j < qs.length * 2 := by
      rcases Nat.lt_or_ge j (qs.length * 2) with h | h
      · exact h
      · rw [List.getElem?_eq_none (by rw [cellsF_len]; omega)] at hj; cases hj
    have e : (⟨b, off, none⟩ : Addr).add j = ⟨b, off + j, none⟩ := Go.WideShapes.add_plain _ _ _
    rw [e]
    rcases (by omega : j = j / 2 * 2 ∨ j = j / 2 * 2 + 1) with hj2 | hj2
    · have hk : j / 2 < qs.length := by omega
      have c := (cellsF_at qs (j / 2) hk).1
      rw [← hj2] at c
      rw [c] at hj
      have d := (hcell (j / 2) hk).1
      rw [← hj2] at d
      rw [d]; exact hj
    · have hk : j / 2 < qs.length := by omega
      have c := (cellsF_at qs (j / 2) hk).2
      rw [← hj2] at c
      rw [c] at hj
      have d := (hcell (j / 2) hk).2
      rw [Nat.add_assoc, ← hj2] at d
      rw [d]; exact hj
theorem holdsF_lit0 (w : World) : HoldsF w (.slice none 0 0) [] := ⟨none, 0, rfl, fun _ => rfl, Nat.le_refl _, fun h => absurd rfl h⟩
theorem holdsF_lit1 (w : World) (x y : List UInt8) : HoldsF (w.alloc (.cells #[S x, S y] 76)) (.slice (some ⟨w.heap.size, 0, none⟩) 1 1) [(x, y)] := by
  refine ⟨_, 1, rfl, (fun e => by cases e), Nat.le_refl _, fun _ => ⟨w.heap.size, 0, rfl, by simp, fun j hj => ?_⟩⟩
  match j, hj with
  | 0, _ => simp
theorem holdsF_lit2 (w : World) (x y x' y' : List UInt8) : HoldsF (w.alloc (.cells #[S x, S y, S x', S y'] 76)) (.slice (some ⟨w.heap.size, 0, none⟩) 2 2) [(x, y), (x', y')] := by
  refine ⟨_, 2, rfl, (fun e => by cases e), Nat.le_refl _, fun _ => ⟨w.heap.size, 0, rfl, by simp, fun j hj => ?_⟩⟩
  match j, hj with
  | 0, _ => simp
  | 1, _ => simp
end Go.Proofs.YtenegcoapejbmaaGreatDoor
namespace Go.Proofs.YtenegcoapejbmaaGreatDoor
open Go.RowKit
set_option maxHeartbeats 1000000 in
theorem sameF (va vb : Value) (xs ys : FL) (w : World) (ha : HoldsF w va xs) (hb : HoldsF w vb ys) (la : xs.length ≤ 1000000000000000) (lb : ys.length ≤ 1000000000000000) :
    Calls Tryz.prog 38 #[va, vb] w fun e w' => e = .returned (.bool (decide (xs = ys))) ∧ ∃ n, w' = w.drewN n := by
  obtain ⟨ao, ca, rfl, _, _, hca⟩ := ha
  obtain ⟨bo, cb, rfl, _, _, hcb⟩ := hb
  by_cases hl : xs.length = ys.length
  · by_cases hz : xs.length = 0
    · have e1 : xs = [] := List.eq_nil_of_length_eq_zero hz
      have e2 : ys = [] := List.eq_nil_of_length_eq_zero (by omega)
      subst e1 e2
      clear hca hcb hl hz la lb
      go_enter Tryz.func38, Tryz.ntmps38
      go_wp2
      go_rounds 1
      go_ret
      exact ⟨rfl, 0, rfl⟩
    · obtain ⟨b1, o1, rfl, hlt1, c1⟩ := hca (fun e => hz (by rw [e]; rfl))
      obtain ⟨b2, o2, rfl, hlt2, c2⟩ := hcb (fun e => hz (by rw [hl, e]; rfl))
      have C1 : Hid _ := c1
      have C2 : Hid _ := c2
      obtain ⟨n, hn⟩ : ∃ n, n = xs.length := ⟨_, rfl⟩
      have N1 : Hid (xs.length = n) := hn.symm
      have N2 : Hid (ys.length = n) := by unfold Hid; omega
      have ln : n ≤ 1000000000000000 := by omega
      rw [N1.out, N2.out]
      clear hca hcb c1 c2 hl hz la lb hn
      go_enter Tryz.func38, Tryz.ntmps38
      go_wp2
      go_loopw [5] (fun i wr => ∃ k : Nat, k ≤ n ∧ i = .int .i64 k ∧ Hid (xs.take k = ys.take k) ∧ ∃ m, Hid (wr = w.drewN m)) (fun i _ => n - (intOf i).toNat)
      case atStart => exact ⟨0, by omega, rfl, rfl, 0, rfl⟩
      case round =>
        obtain ⟨k, hk, rfl, hE, m, hw⟩ := hrel
        have hw' := hw.out
        subst hw'
        by_cases hlt : k < n
        · have x1 := C1.out k (by rw [N1.out]; exact hlt)
          have x2 := C2.out k (by rw [N2.out]; exact hlt)
          unfold S at x1 x2
          have G1 : Hid (k < xs.length) := by unfold Hid; rw [N1.out]; exact hlt
          have G2 : Hid (k < ys.length) := by unfold Hid; rw [N2.out]; exact hlt
          by_cases he : xs[k]'G1.out = ys[k]'G2.out
          · have E : Hid (xs.take (k + 1) = ys.take (k + 1)) := by
              unfold Hid; rw [List.take_succ_eq_append_getElem G1.out, List.take_succ_eq_append_getElem G2.out, hE.out, he]
            rw [he] at x1
            generalize (ys[k]'G2.out).1.toArray = y1 at x1 x2
            generalize (ys[k]'G2.out).2.toArray = y2 at x1 x2
            clear he
            obtain ⟨x11, x12⟩ := x1
            obtain ⟨x21, x22⟩ := x2
            go_wp2
            go_quiet (fail)
            go_wp2
            go_roundw
            case rel => exact ⟨k + 1, by omega, by go_num, E, _, rfl⟩
            case measure => simp [intOf]; omega
          · have F : Hid (decide (xs = ys) = false) := by
              unfold Hid; rw [decide_eq_false_iff_not]; intro e; subst e; exact he rfl
            by_cases he1 : (xs[k]'G1.out).1 = (ys[k]'G2.out).1
            · have he2 : ¬ (xs[k]'G1.out).2 = (ys[k]'G2.out).2 := fun e2 => he (Prod.ext he1 e2)
              have hne : ((⟨(xs[k]'G1.out).2.toArray⟩ : ByteArray).toList == (⟨(ys[k]'G2.out).2.toArray⟩ : ByteArray).toList) = false := by
                rw [Lib.toList_data, Lib.toList_data]; simpa using he2
              rw [he1] at x1
              generalize (ys[k]'G2.out).1.toArray = y1 at x1 x2
              generalize (xs[k]'G1.out).2.toArray = x' at x1 hne
              generalize (ys[k]'G2.out).2.toArray = y' at x2 hne
              clear he he1 he2
              obtain ⟨x11, x12⟩ := x1
              obtain ⟨x21, x22⟩ := x2
              go_wp2
              go_quiet (fail)
              go_wp2
              go_ret
              rw [F.out]
              exact ⟨rfl, _, World.drewN_drewN _ _ _⟩
            · have hne : ((⟨(xs[k]'G1.out).1.toArray⟩ : ByteArray).toList == (⟨(ys[k]'G2.out).1.toArray⟩ : ByteArray).toList) = false := by
                rw [Lib.toList_data, Lib.toList_data]; simpa using he1
              generalize (xs[k]'G1.out).1.toArray = x at x1 hne
              generalize (ys[k]'G2.out).1.toArray = y at x2 hne
              generalize (xs[k]'G1.out).2.toArray = x' at x1
              generalize (ys[k]'G2.out).2.toArray = y' at x2
              clear he he1
              obtain ⟨x11, x12⟩ := x1
              obtain ⟨x21, x22⟩ := x2
              go_wp2
              go_quiet (fail)
              go_wp2
              go_ret
              rw [F.out]
              exact ⟨rfl, _, World.drewN_drewN _ _ _⟩
        · have F : Hid (decide (xs = ys) = true) := by
            unfold Hid; rw [decide_eq_true_iff]
            have := hE.out
            rwa [List.take_of_length_le (by rw [N1.out]; omega), List.take_of_length_le (by rw [N2.out]; omega)] at this
          go_wp2
          go_ret
          rw [F.out]
          exact ⟨rfl, m, rfl⟩
  · have F : Hid (decide (xs = ys) = false) := by
      unfold Hid; rw [decide_eq_false_iff_not]; intro e; subst e; exact hl rfl
    have hl' : ((xs.length : Int) != (ys.length : Int)) = true := by simp; omega
    clear hca hcb hl
    generalize xs.length = n1 at la hl' ⊢
    generalize ys.length = n2 at lb hl' ⊢
    go_enter Tryz.func38, Tryz.ntmps38
    go_wp2
    go_ret
    rw [F.out]
    exact ⟨rfl, 0, rfl⟩
end Go.Proofs.YtenegcoapejbmaaGreatDoor
namespace Go.Proofs.YtenegcoapejbmaaGreatDoor
open Go.RowKit Go.Maps
/-- the two cells of a variable of the call's own -/
def Two (w0 w : World) : Prop := (∃ x, w.cell? ⟨w0.heap.size, 0, none⟩ = some (.string x)) ∧ (∃ x, w.cell? ⟨w0.heap.size, 1, none⟩ = some (.string x)) ∧ w.frozen? ⟨w0.heap.size, 0, none⟩ = false ∧ w.frozen? ⟨w0.heap.size, 1, none⟩ = false ∧ w0.heap.size < w.heap.size ∧ Below w0.heap.size w0 w
theorem two_start (w : World) : Two w (w.alloc (.cells #[.string ⟨#[]⟩, .string ⟨#[]⟩] 76)) :=
  ⟨⟨⟨#[]⟩, by simp⟩, ⟨⟨#[]⟩, by simp⟩, by simp, by simp, by simp, (Below.refl _ _).alloc (Nat.le_refl _) _⟩
theorem two_below {w0 w w' : World} (h : Two w0 w) (hb : Below w.heap.size w w') : Two w0 w' := by
  obtain ⟨⟨x, h1⟩, ⟨y, h2⟩, h3, h4, h5, h6⟩ := h
  obtain ⟨c, f⟩ := bcell hb
  have := hb.size
  exact ⟨⟨x, by rw [c _ _ h5]; exact h1⟩, ⟨y, by rw [c _ _ h5]; exact h2⟩, by rw [f _ _ h5]; exact h3, by rw [f _ _ h5]; exact h4, by omega, h6.trans (hb.mono h6.size)⟩
theorem two_drawn {w0 w : World} (h : Two w0 w) (n : Nat) : Two w0 (w.drewN n) := two_below h (below_drewN w n)
theorem two_store {w0 w : World} (h : Two w0 w) (a b : Value) : ((w.setCell ⟨w0.heap.size, 0, none⟩ a).setCell ⟨w0.heap.size, 1, none⟩ b).cell? ⟨w0.heap.size, 0, none⟩ = some a ∧ ((w.setCell ⟨w0.heap.size, 0, none⟩ a).setCell ⟨w0.heap.size, 1, none⟩ b).cell? ⟨w0.heap.size, 1, none⟩ = some b ∧ Below w0.heap.size w0 ((w.setCell ⟨w0.heap.size, 0, none⟩ a).setCell ⟨w0.heap.size, 1, none⟩ b) := by
  obtain ⟨⟨x, h1⟩, ⟨y, h2⟩, h3, h4, h5, h6⟩ := h
  refine ⟨?_, ?_, (h6.setCell (Nat.le_refl _) _).setCell (Nat.le_refl _) _⟩
  · rw [World.cell?_setCell_other _ _ _ _ (by simp)]
    exact World.cell?_setCell_same _ _ _ h1
  · refine World.cell?_setCell_same (u := .string y) _ _ _ ?_
    rw [World.cell?_setCell_other _ _ _ _ (by simp)]
    exact h2
theorem ownsMap_below {H : Type} {P : Program} {k : TypeId} {R : Value → Option (DataW H × List MemPlace)} {b n : Nat} {D : DataW H} {w w' : World} (h : w.ownsMap P k R b n D) (hb : Below w.heap.size w w') : w'.ownsMap P k R b n D := by
  have hlt := h.lt
  obtain ⟨es, clock, hbk, F, hs, hD⟩ := h
  exact ⟨es, clock, by rw [hb.block b hlt]; exact hbk, F, hs, hD⟩
def keysOf (ns : List (List UInt8)) : List Lit := ns.map (fun n => Lit.string (lows n))
def setN (ns : List (List UInt8)) : DataW Unit := setOf (.agg []) (keysOf ns)
theorem setN_step (ns : List (List UInt8)) (k : Nat) (h : k < ns.length) : setN (ns.take (k + 1)) = (setN (ns.take k)).put (.string (lows ns[k])) (.agg []) := by
  unfold setN keysOf
  rw [List.take_succ_eq_append_getElem h, List.map_append, List.map_cons, List.map_nil, setOf_snoc]
theorem has_setN (ns : List (List UInt8)) (x : List UInt8) : Maps.has (setN ns) (.string x) = decide (x ∈ ns.map lows) := by
  unfold setN
  rw [has_setOf _ _ _ (by intro y hy; obtain ⟨n, _, rfl⟩ := List.mem_map.1 hy; exact trivial), Bool.eq_iff_iff, List.any_eq_true, decide_eq_true_iff]
  constructor
  · rintro ⟨y, hy, hs⟩
    obtain ⟨n, hn, rfl⟩ := List.mem_map.1 hy
    have := WideAt.sameKey_eq hs
    injection this with e
    exact List.mem_map.2 ⟨n, hn, e⟩
  · intro h
    obtain ⟨n, hn, rfl⟩ := List.mem_map.1 h
    exact ⟨_, List.mem_map.2 ⟨n, hn, rfl⟩, WideAt.sameKey_self trivial⟩
theorem holds_parts {w : World} {v : Value} {ss : List (List UInt8)} (h : Holds w v ss) : ∃ ao cap b off, v = .slice ao ss.length cap ∧ (0 < ss.length → ao = some ⟨b, off, none⟩ ∧ b < w.heap.size ∧ ∀ j (h : j < ss.length), w.cell? ⟨b, off + j, none⟩ = some (S ss[j])) := by
  obtain ⟨ao, cap, rfl, hc⟩ := h
  by_cases he : ss = []
  · subst he; exact ⟨ao, cap, 0, 0, rfl, fun h => absurd h (by simp)⟩
  · obtain ⟨b, off, h1, h2, h3⟩ := hc he
    exact ⟨ao, cap, b, off, rfl, fun _ => ⟨h1, h2, h3⟩⟩
theorem holdsF_parts {w : World} {v : Value} {ps : FL} (h : HoldsF w v ps) : ∃ ao cap b off, v = .slice ao ps.length cap ∧ (0 < ps.length → ao = some ⟨b, off, none⟩ ∧ b < w.heap.size ∧ ∀ j (h : j < ps.length), w.cell? ⟨b, off + j * 2, none⟩ = some (S ps[j].1) ∧ w.cell? ⟨b, off + j * 2 + 1, none⟩ = some (S ps[j].2)) := by
  obtain ⟨ao, cap, rfl, _, _, hc⟩ := h
  by_cases he : ps = []
  · subst he; exact ⟨ao, cap, 0, 0, rfl, fun h => absurd h (by simp)⟩
  · obtain ⟨b, off, h1, h2, h3⟩ := hc he
    exact ⟨ao, cap, b, off, rfl, fun _ => ⟨h1, h2, h3⟩⟩
end Go.Proofs.YtenegcoapejbmaaGreatDoor
namespace Go.Proofs.YtenegcoapejbmaaGreatDoor
open Go.RowKit
theorem row_poke {W : World} {base k n b o : Nat} {t : TypeId} {v x : Value} {cs : List Value} (h : W.ownsRow base t k v n cs) (hb : b < base) : (W.setCell ⟨b, o, none⟩ x).ownsRow base t k v n cs := by
  obtain ⟨hl, h1 | ⟨g, cap, cur, hv, hg, hh, hr⟩⟩ := h
  · exact ⟨hl, .inl h1⟩
  · exact ⟨hl, .inr ⟨g, cap, cur, hv, hg, by rw [heap_setCell_other _ _ _ _ (by show g ≠ b; omega)]; exact hh, hr⟩⟩
theorem row_below {W W' : World} {base k n : Nat} {t : TypeId} {v : Value} {cs : List Value} (h : W.ownsRow base t k v n cs) (hb : Below W.heap.size W W') : W'.ownsRow base t k v n cs := by
  obtain ⟨hl, h1 | ⟨g, cap, cur, hv, hg, hh, hr⟩⟩ := h
  · exact ⟨hl, .inl h1⟩
  · have hlt : g < W.heap.size := by
      rcases Nat.lt_or_ge g W.heap.size with h | h
      · exact h
      · rw [Array.getElem?_eq_none (by omega)] at hh; cases hh
    exact ⟨hl, .inr ⟨g, cap, cur, hv, hg, by rw [hb.block g hlt]; exact hh, hr⟩⟩
theorem row_base {W : World} {base base' k n : Nat} {t : TypeId} {v : Value} {cs : List Value} (h : W.ownsRow base t k v n cs) (hb : base' ≤ base) : W.ownsRow base' t k v n cs := by
  obtain ⟨hl, h1 | ⟨g, cap, cur, hv, hg, hh, hr⟩⟩ := h
  · exact ⟨hl, .inl h1⟩
  · exact ⟨hl, .inr ⟨g, cap, cur, hv, by omega, hh, hr⟩⟩
end Go.Proofs.YtenegcoapejbmaaGreatDoor
namespace Go.Proofs.YtenegcoapejbmaaGreatDoor
open Go.RowKit
/-- a block of four cells that may be written, and what they hold -/
def Quad (b : Nat) (W : World) (v0 v1 v2 v3 : Value) : Prop := W.cell? ⟨b, 0, none⟩ = some v0 ∧ W.cell? ⟨b, 1, none⟩ = some v1 ∧ W.cell? ⟨b, 2, none⟩ = some v2 ∧ W.cell? ⟨b, 3, none⟩ = some v3 ∧
  W.frozen? ⟨b, 0, none⟩ = false ∧ W.frozen? ⟨b, 1, none⟩ = false ∧ W.frozen? ⟨b, 2, none⟩ = false ∧ W.frozen? ⟨b, 3, none⟩ = false ∧ b < W.heap.size
theorem quad_below {b : Nat} {W W' : World} {v0 v1 v2 v3 : Value} (h : Quad b W v0 v1 v2 v3) (hb : Below W.heap.size W W') : Quad b W' v0 v1 v2 v3 := by
  obtain ⟨h0, h1, h2, h3, f0, f1, f2, f3, hz⟩ := h
  have c : ∀ o, W'.cell? ⟨b, o, none⟩ = W.cell? ⟨b, o, none⟩ := fun o => hb.cell (p := ⟨b, o, none⟩) hz
  have f : ∀ o, W'.frozen? ⟨b, o, none⟩ = W.frozen? ⟨b, o, none⟩ := fun o => hb.frozen (p := ⟨b, o, none⟩) hz
  exact ⟨by rw [c]; exact h0, by rw [c]; exact h1, by rw [c]; exact h2, by rw [c]; exact h3, by rw [f]; exact f0, by rw [f]; exact f1, by rw [f]; exact f2, by rw [f]; exact f3, Nat.lt_of_lt_of_le hz hb.size⟩
theorem oth4 {b i j : Nat} {W : World} {v : Value} (h : j ≠ i) : (W.setCell ⟨b, j, none⟩ v).cell? ⟨b, i, none⟩ = W.cell? ⟨b, i, none⟩ := World.cell?_setCell_other _ _ _ _ (by first | (simp; done) | omega)
def put4 (b : Nat) (W : World) (v0 v1 v2 v3 : Value) : World := (((W.setCell ⟨b, 0, none⟩ v0).setCell ⟨b, 1, none⟩ v1).setCell ⟨b, 2, none⟩ v2).setCell ⟨b, 3, none⟩ v3
theorem quad_store {b : Nat} {W : World} {u0 u1 u2 u3 : Value} (h : Quad b W u0 u1 u2 u3) (v0 v1 v2 v3 : Value) :
    (put4 b W v0 v1 v2 v3).cell? ⟨b, 0, none⟩ = some v0 ∧ (put4 b W v0 v1 v2 v3).cell? ⟨b, 1, none⟩ = some v1 ∧ (put4 b W v0 v1 v2 v3).cell? ⟨b, 2, none⟩ = some v2 ∧ (put4 b W v0 v1 v2 v3).cell? ⟨b, 3, none⟩ = some v3 := by
  obtain ⟨h0, h1, h2, h3, _⟩ := h
  unfold put4
  refine ⟨?_, ?_, ?_, ?_⟩
  · rw [oth4 (by decide), oth4 (by decide), oth4 (by decide)]
    exact World.cell?_setCell_same _ _ _ h0
  · rw [oth4 (by decide), oth4 (by decide)]
    exact World.cell?_setCell_same (u := u1) _ _ _ (by rw [oth4 (by decide)]; exact h1)
  · rw [oth4 (by decide)]
    exact World.cell?_setCell_same (u := u2) _ _ _ (by rw [oth4 (by decide), oth4 (by decide)]; exact h2)
  · exact World.cell?_setCell_same (u := u3) _ _ _ (by rw [oth4 (by decide), oth4 (by decide), oth4 (by decide)]; exact h3)
theorem put4_below {w W : World} {b : Nat} (h : Below w.heap.size w W) (hb : w.heap.size ≤ b) (v0 v1 v2 v3 : Value) : Below w.heap.size w (put4 b W v0 v1 v2 v3) :=
  (((h.setCell hb _).setCell hb _).setCell hb _).setCell hb _
theorem quad_lit (w : World) (v0 v1 v2 v3 : Value) (t : TypeId) : Quad w.heap.size (w.alloc (.cells #[v0, v1, v2, v3] t)) v0 v1 v2 v3 :=
  ⟨by simp, by simp, by simp, by simp, by simp, by simp, by simp, by simp, by simp⟩
theorem frozen_set4 {b i j : Nat} {W : World} {v : Value} : (W.setCell ⟨b, j, none⟩ v).frozen? ⟨b, i, none⟩ = W.frozen? ⟨b, i, none⟩ := by simp
theorem quad_put {b : Nat} {W : World} {u0 u1 u2 u3 : Value} (h : Quad b W u0 u1 u2 u3) (v0 v1 v2 v3 : Value) : Quad b (put4 b W v0 v1 v2 v3) v0 v1 v2 v3 := by
  obtain ⟨q0, q1, q2, q3⟩ := quad_store h v0 v1 v2 v3
  obtain ⟨_, _, _, _, f0, f1, f2, f3, hz⟩ := h
  refine ⟨q0, q1, q2, q3, ?_, ?_, ?_, ?_, by simp [put4, World.setCell]; exact hz⟩
  · unfold put4; rw [frozen_set4, frozen_set4, frozen_set4, frozen_set4]; exact f0
  · unfold put4; rw [frozen_set4, frozen_set4, frozen_set4, frozen_set4]; exact f1
  · unfold put4; rw [frozen_set4, frozen_set4, frozen_set4, frozen_set4]; exact f2
  · unfold put4; rw [frozen_set4, frozen_set4, frozen_set4, frozen_set4]; exact f3
theorem row_put {W : World} {base k n b : Nat} {t : TypeId} {v v0 v1 v2 v3 : Value} {cs : List Value} (h : W.ownsRow base t k v n cs) (hb : b < base) : (put4 b W v0 v1 v2 v3).ownsRow base t k v n cs :=
  row_poke (row_poke (row_poke (row_poke h hb) hb) hb) hb
theorem quad_set3 {b : Nat} {W : World} {v0 v1 v2 v3 : Value} (h : Quad b W v0 v1 v2 v3) (x : Value) : Quad b (W.setCell ⟨b, 3, none⟩ x) v0 v1 v2 x := by
  obtain ⟨h0, h1, h2, h3, f0, f1, f2, f3, hz⟩ := h
  exact ⟨by rw [oth4 (by decide)]; exact h0, by rw [oth4 (by decide)]; exact h1, by rw [oth4 (by decide)]; exact h2, World.cell?_setCell_same (u := v3) _ _ _ h3, by rw [frozen_set4]; exact f0, by rw [frozen_set4]; exact f1, by rw [frozen_set4]; exact f2, by rw [frozen_set4]; exact f3, by simpa using hz⟩
theorem quad_other {b c o : Nat} {W : World} {v0 v1 v2 v3 : Value} (h : Quad b W v0 v1 v2 v3) (hne : b ≠ c) (x : Value) : Quad b (W.setCell ⟨c, o, none⟩ x) v0 v1 v2 v3 := by
  obtain ⟨h0, h1, h2, h3, f0, f1, f2, f3, hz⟩ := h
  have c : ∀ i, (W.setCell ⟨c, o, none⟩ x).cell? ⟨b, i, none⟩ = W.cell? ⟨b, i, none⟩ := fun i => by simp [World.cell?, heap_setCell_other W ⟨c, o, none⟩ b x hne]
  exact ⟨by rw [c]; exact h0, by rw [c]; exact h1, by rw [c]; exact h2, by rw [c]; exact h3, by simpa using f0, by simpa using f1, by simpa using f2, by simpa using f3, by simpa using hz⟩
end Go.Proofs.YtenegcoapejbmaaGreatDoor
namespace Go.Proofs.YtenegcoapejbmaaGreatDoor
open Go.RowKit
theorem holdsF_row {w : World} {base : Nat} {v : Value} {ps : FL} (h : w.ownsRow base 76 2 v ps.length (cellsF ps)) : HoldsF w v ps := by
  obtain ⟨hl, h1 | ⟨g, cap, cur, rfl, hg, hh, hr⟩⟩ := h
  · obtain ⟨rfl, hn⟩ := h1
    obtain rfl : ps = [] := List.eq_nil_of_length_eq_zero hn
    exact ⟨none, 0, rfl, fun _ => rfl, Nat.le_refl _, fun h => absurd rfl h⟩
  · have h' : w.ownsRow base 76 2 (.slice (some ⟨g, 0, none⟩) ps.length cap) ps.length (cellsF ps) := ⟨hl, .inr ⟨g, cap, cur, rfl, hg, hh, hr⟩⟩
    refine ⟨_, cap, rfl, fun e => (by cases e), hr.1, fun _ => ⟨g, 0, rfl, (h'.lt g rfl).2, fun j hj => ?_⟩⟩
    have c := cellsF_at ps j hj
    rw [Nat.zero_add]
    exact ⟨by rw [h'.cellAt (j * 2) (by omega)]; exact c.1, by rw [h'.cellAt (j * 2 + 1) (by omega)]; exact c.2⟩
end Go.Proofs.YtenegcoapejbmaaGreatDoor
namespace Go.Proofs.YtenegcoapejbmaaGreatDoor
open Go.RowKit
theorem sameFe (va vb : Value) (xs : FL) (w : World) (ha : HoldsF w va xs) (hb : HoldsF w vb xs) (la : xs.length ≤ 1000000000000000) :
    Calls Tryz.prog 38 #[va, vb] w fun e w' => e = .returned (.bool true) ∧ Below w.heap.size w w' := by
  refine (sameF va vb xs xs w ha hb la la).mono ?_
  rintro e w' ⟨rfl, n, rfl⟩
  exact ⟨by simp, below_drewN _ _⟩
set_option maxRecDepth 20000 in
set_option maxHeartbeats 2000000 in
theorem sameRs (s k : Int) (r : List UInt8) (fs : FL) (la lb : Value) (w : World) (ha : HoldsF w la fs) (hb : HoldsF w lb fs) (hl : fs.length ≤ 2000000) :
    Calls Tryz.prog 17 #[.agg #[.int .i64 s, .string ⟨r.toArray⟩, .int .i64 k, la], .agg #[.int .i64 s, .string ⟨r.toArray⟩, .int .i64 k, lb]] w fun e w' => e = .returned (.bool true) ∧ Below w.heap.size w w' := by
  obtain ⟨a1, c1, b1, o1, e1, _⟩ := holdsF_parts ha
  obtain ⟨a2, c2, b2, o2, e2, _⟩ := holdsF_parts hb
  subst e1 e2
  have b0 := below_alloc' w (.cells #[.int .i64 s, .string ⟨r.toArray⟩, .int .i64 k, .slice a1 fs.length c1] 27)
  have b1' := below_alloc' (w.alloc (.cells #[.int .i64 s, .string ⟨r.toArray⟩, .int .i64 k, .slice a1 fs.length c1] 27)) (.cells #[.int .i64 s, .string ⟨r.toArray⟩, .int .i64 k, .slice a2 fs.length c2] 27)
  have bb := bt' b0 b1'
  have cS := hide' (sameFe _ _ fs _ (holdsF_mono ha bb) (holdsF_mono hb bb) (by omega))
  have BB := hide' bb
  clear ha hb b0 b1' bb
  generalize fs.length = n at cS BB ⊢
  go_enter Tryz.func17, Tryz.ntmps17
  go_wp2_with fail
  refine cS.out.mono ?_
  rintro e w' ⟨rfl, b⟩
  have B' := hide' (bt' BB.out b)
  clear b
  go_wp2_with fail
  go_ret
  exact ⟨rfl, B'.out⟩
end Go.Proofs.YtenegcoapejbmaaGreatDoor
namespace Go.Proofs.YtenegcoapejbmaaGreatDoor
open Go.RowKit
/-- a whole list of bytes appended -/
theorem appAllB {ops : Array Oper} {rest : List Oper} {o : Oper} {a : Act} {Q : Exit → Act → World → Prop} {wr : World} (hgd : o.guard = none) (s z : Operand)
    (ho : o.op = .call { callee := .builtin .append, args := #[s, z], argTypes := #[22, 22] }) (w0 : World) (v : Value) (ps : List UInt8) (hs : a.eval s = v) (hown : Own w0 v ps wr)
    (u : Value) (qs : List UInt8) (hz : a.eval z = u) (hu : HoldsB wr u qs) (hlen : ps.length + qs.length ≤ 140737488355328)
    (h : ∀ v' w', Own w0 v' (ps ++ qs) w' → wpList Tryz.prog ops Q rest (a.put o.dst v') w') : wpList Tryz.prog ops Q (o :: rest) a wr := by
  obtain ⟨i0, hi, hz0, hz1, hz2⟩ := info_parts Tryz.info5
  have hsz := hown.2.size
  obtain ⟨ao, cap, rfl, h0, hcp, hc⟩ := hu
  have key : ∀ (ad : Addr), ao = some ad → (∀ j x, (qs.map B)[j]? = some x → wr.cell? (ad.add j) = some x) → wpList Tryz.prog ops Q (o :: rest) a wr := by
    intro ad e hnews
    subst e
    refine wpList_append_own _ hgd s z 22 ho w0.heap.size 5 i0 (.int .u8 0) 1 1 Tryz.underlying22 hi hz0 hz1 hz2 rfl (by decide) v ps.length (ps.map B) hs hown.1 ad qs.length cap (qs.map B) hz (by simp) hnews ?_ (by unfold maxLen; omega) (by omega) hsz ?_
    · intro u hu; obtain ⟨x, _, rfl⟩ := List.mem_map.1 hu; rfl
    · intro v' w' h1 h2 _
      refine h v' w' ⟨by rw [List.map_append, List.length_append]; exact h1, ?_⟩
      refine Below.grown hown.2 h2 (by omega) ?_
      intro k hk
      exact (hown.1.lt k hk).1
  by_cases hq : qs = []
  · subst hq
    cases ao with
    | none =>
      obtain rfl := h0 rfl
      refine wpList_append_own_none hgd s z 22 ho w0.heap.size 5 i0 1 Tryz.underlying22 hi v ps.length (ps.map B) hs hown.1 hz ?_
      exact h v wr (by rw [List.append_nil]; exact hown)
    | some ad => exact key ad rfl (fun j x hj => by simp at hj)
  · obtain ⟨b, off, rfl, hlt, hcell⟩ := hc hq
    refine key ⟨b, off, none⟩ rfl (fun j x hj => ?_)
    have e : (⟨b, off, none⟩ : Addr).add j = ⟨b, off + j, none⟩ := Go.WideShapes.add_plain _ _ _
    rw [e]
    obtain ⟨hj1, hj2⟩ := List.getElem?_eq_some_iff.1 hj
    rw [List.length_map] at hj1
    rw [hcell j hj1, ← hj2]
    simp
theorem own_mono {w0 w w' : World} {v : Value} {ps : List UInt8} (h : Own w0 v ps w) (hb : Below w.heap.size w w') : Own w0 v ps w' := by
  have hz := h.2.size
  refine ⟨?_, h.2.trans (hb.mono hz)⟩
  obtain ⟨hl, h1 | ⟨g, cap, cur, rfl, hg, hh, hr⟩⟩ := h.1
  · exact ⟨hl, .inl h1⟩
  · have hlt : g < w.heap.size := by
      rcases Nat.lt_or_ge g w.heap.size with h | h
      · exact h
      · rw [Array.getElem?_eq_none (by omega)] at hh; cases hh
    exact ⟨hl, .inr ⟨g, cap, cur, rfl, hg, by rw [hb.block g hlt]; exact hh, hr⟩⟩
theorem own_base {w w1 w2 : World} {v : Value} {ps : List UInt8} (h : Own w1 v ps w2) (hb : Below w.heap.size w w1) : Own w v ps w2 := by
  have hz := hb.size
  refine ⟨?_, hb.trans (h.2.mono hz)⟩
  obtain ⟨hl, h1 | ⟨g, cap, cur, hv, hg, hr⟩⟩ := h.1
  · exact ⟨hl, .inl h1⟩
  · exact ⟨hl, .inr ⟨g, cap, cur, hv, by omega, hr⟩⟩
set_option maxHeartbeats 400000 in
theorem copyB (v : Value) (bs : List UInt8) (w : World) (hv : HoldsB w v bs) (hl : bs.length ≤ 140737488355328) :
    Calls Tryz.prog 11 #[v] w fun e w' => ∃ u, e = .returned u ∧ Own w u bs w' := by
  have HV := hide' (holdsB_mono hv (below_alloc' w (.cells #[] 5)))
  clear hv
  go_enter Tryz.func11, Tryz.ntmps11
  go_wp2_with (at_builtin; refine appAllB rfl (.tmp 5) (.tmp 6) rfl w _ [] rfl (own_empty w) v bs rfl HV.out (by simpa using hl) ?_; intro v2 w2 hown2)
  go_ret
  exact ⟨v2, rfl, hown2⟩
set_option maxRecDepth 20000 in
set_option maxHeartbeats 1000000 in
theorem sameB (va vb : Value) (xs ys : List UInt8) (w : World) (ha : HoldsB w va xs) (hb : HoldsB w vb ys) (la : xs.length ≤ 1000000000000000) (lb : ys.length ≤ 1000000000000000) :
    Calls Tryz.prog 9 #[va, vb] w fun e w' => e = .returned (.bool (decide (xs = ys))) ∧ ∃ n, w' = w.drewN n := by
  obtain ⟨ao, ca, rfl, _, _, hca⟩ := ha
  obtain ⟨bo, cb, rfl, _, _, hcb⟩ := hb
  by_cases hl : xs.length = ys.length
  · by_cases hz : xs.length = 0
    · have e1 : xs = [] := List.eq_nil_of_length_eq_zero hz
      have e2 : ys = [] := List.eq_nil_of_length_eq_zero (by omega)
      subst e1 e2
      clear hca hcb hl hz la lb
      go_enter Tryz.func9, Tryz.ntmps9
      go_wp2
      go_rounds 1
      go_ret
      exact ⟨rfl, 0, rfl⟩
    · obtain ⟨b1, o1, rfl, hlt1, c1⟩ := hca (fun e => hz (by rw [e]; rfl))
      obtain ⟨b2, o2, rfl, hlt2, c2⟩ := hcb (fun e => hz (by rw [hl, e]; rfl))
      have C1 : Hid _ := c1
      have C2 : Hid _ := c2
      obtain ⟨n, hn⟩ : ∃ n, n = xs.length := ⟨_, rfl⟩
      have N1 : Hid (xs.length = n) := hn.symm
      have N2 : Hid (ys.length = n) := by unfold Hid; omega
      have ln : n ≤ 1000000000000000 := by omega
      rw [N1.out, N2.out]
      clear hca hcb c1 c2 hl hz la lb hn
      go_enter Tryz.func9, Tryz.ntmps9
      go_wp2
      go_loopw [5] (fun i wr => ∃ k : Nat, k ≤ n ∧ i = .int .i64 k ∧ Hid (xs.take k = ys.take k) ∧ ∃ m, Hid (wr = w.drewN m)) (fun i _ => n - (intOf i).toNat)
      case atStart => exact ⟨0, by omega, rfl, rfl, 0, rfl⟩
      case round =>
        obtain ⟨k, hk, rfl, hE, m, hw⟩ := hrel
        have hw' := hw.out
        subst hw'
        by_cases hlt : k < n
        · have x1 := C1.out k (by rw [N1.out]; exact hlt)
          have x2 := C2.out k (by rw [N2.out]; exact hlt)
          unfold B at x1 x2
          have G1 : Hid (k < xs.length) := by unfold Hid; rw [N1.out]; exact hlt
          have G2 : Hid (k < ys.length) := by unfold Hid; rw [N2.out]; exact hlt
          by_cases he : xs[k]'G1.out = ys[k]'G2.out
          · have E : Hid (xs.take (k + 1) = ys.take (k + 1)) := by
              unfold Hid; rw [List.take_succ_eq_append_getElem G1.out, List.take_succ_eq_append_getElem G2.out, hE.out, he]
            rw [he] at x1
            generalize (ys[k]'G2.out).toNat = y at x1 x2
            clear he
            go_wp2
            go_quiet (fail)
            go_wp2
            go_roundw
            case rel => exact ⟨k + 1, by omega, by go_num, E, _, rfl⟩
            case measure => simp [intOf]; omega
          · have F : Hid (decide (xs = ys) = false) := by
              unfold Hid; rw [decide_eq_false_iff_not]; intro e; subst e; exact he rfl
            have hne : (((xs[k]'G1.out).toNat : Int) != ((ys[k]'G2.out).toNat : Int)) = true := by
              simp
              intro e
              exact he (UInt8.toNat_inj.1 (by omega))
            have hne2 : ((xs[k]'G1.out).toNat != (ys[k]'G2.out).toNat) = true := by
              simp
              intro e
              exact he (UInt8.toNat_inj.1 e)
            generalize (xs[k]'G1.out).toNat = x at x1 hne hne2
            generalize (ys[k]'G2.out).toNat = y at x2 hne hne2
            clear he
            go_wp2
            go_quiet (fail)
            go_wp2
            go_ret
            rw [F.out]
            exact ⟨rfl, _, World.drewN_drewN _ _ _⟩
        · have F : Hid (decide (xs = ys) = true) := by
            unfold Hid; rw [decide_eq_true_iff]
            have := hE.out
            rwa [List.take_of_length_le (by rw [N1.out]; omega), List.take_of_length_le (by rw [N2.out]; omega)] at this
          go_wp2
          go_ret
          rw [F.out]
          exact ⟨rfl, m, rfl⟩
  · have F : Hid (decide (xs = ys) = false) := by
      unfold Hid; rw [decide_eq_false_iff_not]; intro e; subst e; exact hl rfl
    have hl' : ((xs.length : Int) != (ys.length : Int)) = true := by simp; omega
    clear hca hcb hl
    generalize xs.length = n1 at la hl' ⊢
    generalize ys.length = n2 at lb hl' ⊢
    go_enter Tryz.func9, Tryz.ntmps9
    go_wp2
    go_ret
    rw [F.out]
    exact ⟨rfl, 0, rfl⟩
theorem sameBe (va vb : Value) (xs : List UInt8) (w : World) (ha : HoldsB w va xs) (hb : HoldsB w vb xs) (la : xs.length ≤ 1000000000000000) :
    Calls Tryz.prog 9 #[va, vb] w fun e w' => e = .returned (.bool true) ∧ Below w.heap.size w w' := by
  refine (sameB va vb xs xs w ha hb la la).mono ?_
  rintro e w' ⟨rfl, n, rfl⟩
  exact ⟨by simp, below_drewN _ _⟩
end Go.Proofs.YtenegcoapejbmaaGreatDoor
namespace Go.Proofs.YtenegcoapejbmaaGreatDoor
open Go.RowKit
/-- block b's first cells hold vs, and may be written -/
def Blk (b : Nat) (W : World) (vs : List Value) : Prop := (∀ j (h : j < vs.length), W.cell? ⟨b, j, none⟩ = some vs[j] ∧ W.frozen? ⟨b, j, none⟩ = false) ∧ b < W.heap.size
theorem cells_below {b : Nat} {W W' : World} {vs : List Value} (h : Blk b W vs) (hb : Below W.heap.size W W') : Blk b W' vs :=
  ⟨fun j hj => ⟨by rw [hb.cell (p := ⟨b, j, none⟩) h.2]; exact (h.1 j hj).1, by rw [hb.frozen (p := ⟨b, j, none⟩) h.2]; exact (h.1 j hj).2⟩, Nat.lt_of_lt_of_le h.2 hb.size⟩
theorem cells_base {b base : Nat} {W W' : World} {vs : List Value} (h : Blk b W vs) (hb : Below base W W') (hlt : b < base) : Blk b W' vs :=
  ⟨fun j hj => ⟨by rw [hb.cell (p := ⟨b, j, none⟩) hlt]; exact (h.1 j hj).1, by rw [hb.frozen (p := ⟨b, j, none⟩) hlt]; exact (h.1 j hj).2⟩, Nat.lt_of_lt_of_le h.2 hb.size⟩
theorem cells_lit (w : World) (cs : Array Value) (t : TypeId) : Blk w.heap.size (w.alloc (.cells cs t)) cs.toList := by
  refine ⟨fun j hj => ⟨?_, ?_⟩, by simp⟩
  · unfold World.cell?
    rw [heap_alloc_new]
    have hj' : j < cs.size := by simpa using hj
    simp [hj']
  · unfold World.frozen?
    rw [heap_alloc_new]
    simp
/-- one cell written -/
theorem cells_set {b j : Nat} {W : World} {vs : List Value} (h : Blk b W vs) (hj : j < vs.length) (x : Value) : Blk b (W.setCell ⟨b, j, none⟩ x) (vs.set j x) := by
  refine ⟨fun i hi => ⟨?_, by simpa using (h.1 i (by simpa using hi)).2⟩, by simpa using h.2⟩
  rw [List.length_set] at hi
  by_cases e : i = j
  · subst e
    rw [World.cell?_setCell_same _ _ _ (h.1 i hj).1, List.getElem_set_self]
  · rw [World.cell?_setCell_other _ _ _ _ (by first | (simp; omega) | simp), (h.1 i hi).1, List.getElem_set_ne (by omega)]
/-- a cell of another block written -/
theorem cells_other {b c o : Nat} {W : World} {vs : List Value} (h : Blk b W vs) (hne : b ≠ c) (x : Value) : Blk b (W.setCell ⟨c, o, none⟩ x) vs := by
  refine ⟨fun i hi => ⟨?_, by simpa using (h.1 i hi).2⟩, by simpa using h.2⟩
  have e : (W.setCell ⟨c, o, none⟩ x).cell? ⟨b, i, none⟩ = W.cell? ⟨b, i, none⟩ := by simp [World.cell?, heap_setCell_other W ⟨c, o, none⟩ b x hne]
  rw [e]
  exact (h.1 i hi).1
/-- many cells written, one behind the other -/
def putFrom (b : Nat) : Nat → World → List Value → World
  | _, W, [] => W
  | o, W, v :: r => putFrom b (o + 1) (W.setCell ⟨b, o, none⟩ v) r
theorem cells_putFrom {b : Nat} : ∀ (vs : List Value) (o : Nat) (W : World) (us : List Value), Blk b W us → o + vs.length ≤ us.length → Blk b (putFrom b o W vs) (us.take o ++ vs ++ us.drop (o + vs.length)) := by
  intro vs
  induction vs with
  | nil =>
    intro o W us h hl
    simp only [putFrom, List.append_nil, List.length_nil, Nat.add_zero]
    rw [List.take_append_drop]
    exact h
  | cons v r ih =>
    intro o W us h hl
    rw [List.length_cons] at hl
    have h1 := ih (o + 1) _ _ (cells_set h (show o < us.length by omega) v) (by rw [List.length_set]; omega)
    have e1 : (us.set o v).take (o + 1) = us.take o ++ [v] := by
      rw [List.take_succ_eq_append_getElem (by rw [List.length_set]; omega), List.getElem_set_self, List.take_set_of_le (Nat.le_refl _)]
    have e2 : (us.set o v).drop (o + 1 + r.length) = us.drop (o + (v :: r).length) := by
      rw [List.drop_set_of_lt (by omega), List.length_cons]
      congr 1
      omega
    rw [e1, e2] at h1
    show Blk b (putFrom b (o + 1) (W.setCell ⟨b, o, none⟩ v) r) _
    have e3 : us.take o ++ v :: r ++ us.drop (o + (v :: r).length) = us.take o ++ [v] ++ r ++ us.drop (o + (v :: r).length) := by simp
    rw [e3]
    exact h1
theorem cells_put {b : Nat} {W : World} {us : List Value} (h : Blk b W us) (vs : List Value) (hl : vs.length = us.length) : Blk b (putFrom b 0 W vs) vs := by
  have h1 := cells_putFrom vs 0 W us h (by omega)
  rw [List.take_zero, List.nil_append, Nat.zero_add, List.drop_eq_nil_of_le (by omega), List.append_nil] at h1
  exact h1
theorem put_below {w : World} {b : Nat} (hb : w.heap.size ≤ b) : ∀ (vs : List Value) (o : Nat) (W : World), Below w.heap.size w W → Below w.heap.size w (putFrom b o W vs) := by
  intro vs
  induction vs with
  | nil => intro o W h; exact h
  | cons v r ih => intro o W h; exact ih (o + 1) _ (h.setCell hb v)
theorem row_putFrom {base k n b : Nat} {t : TypeId} {v : Value} {cs : List Value} (hb : b < base) : ∀ (vs : List Value) (o : Nat) (W : World), W.ownsRow base t k v n cs → (putFrom b o W vs).ownsRow base t k v n cs := by
  intro vs
  induction vs with
  | nil => intro o W h; exact h
  | cons x r ih => intro o W h; exact ih (o + 1) _ (row_poke h hb)
end Go.Proofs.YtenegcoapejbmaaGreatDoor

