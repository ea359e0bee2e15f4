/- The bodies of the library's functions that are met here are those that the kit's contracts were proved of: the tables of numbers, checked body by body. The library's two errors of numbers, as the row lists them; lower. The number that an element tells: the library's ParseUint of 63 bits at base ten, the project's number, the document's. The contracts of strconv.ParseUint at base ten and 63 bits and of number, out of what the row lists of the library's two errors. A block of two cells that may be written; the contracts of byCoding, byLengths and byFields. The contracts of byFields, bodiless, OfRequest, OfResponse; the laws' own check of one call. What a row lists of the library's two errors is what the road of number reads. -/
import Derived.Shelf.Strconv.ToErrorRange
import Derived.Test.YtmikgpmnffdnnaaGreatDoorProg
import Derived.Test.YtmikgpmnffdnnaaGreatDoorBa
import Derived.Test.YtmikgpmnffdnnaaGreatDoorRows
import Derived.Lib.ConvBytes
import Derived.Stop.LaidErr
import Derived.MakeChecks
import Derived.Test.YtmikgpmnffdnnaaGreatDoorBi
import Derived.Shelf.Strconv.ToError
import Derived.Lib.ParseIntBMem
import Derived.Laws.Strings3
import Derived.Laws.Closers25
import Derived.Laws.Closers25b
import Derived.BigCall
import Derived.BigGuard
namespace Go.Proofs
open Go.Shelf
def Tryz.laysC245_ren : Go.Shelf.Ren := ⟨fun | 245 => 156 | 279 => 172 | 280 => 173 | 281 => 174 | 282 => 175 | 316 => 118 | 171 => 191 | 205 => 190 | 243 => 197 | 246 => 200 | 283 => 201 | 284 => 202 | 285 => 203 | 286 => 204 | 129 => 206 | 317 => 205 | 318 => 207 | 319 => 208 | 320 => 209 | 337 => 210 | 338 => 211 | n => n, fun | 9 => 9 | 3 => 3 | 75 => 141 | 167 => 177 | 4 => 4 | 168 => 180 | 210 => 195 | 37 => 22 | 0 => 0 | 127 => 160 | 145 => 202 | 143 => 200 | 2 => 2 | 171 => 204 | 53 => 165 | 5 => 5 | 173 => 207 | 212 => 210 | 51 => 145 | 20 => 20 | 213 => 211 | 46 => 128 | 232 => 214 | 233 => 215 | 80 => 164 | n => n, fun | 15 => 3 | 16 => 4 | 17 => 5 | 18 => 6 | 19 => 7 | n => n⟩
theorem Tryz.laysC245 : Go.Proofs.LaysC.n245 Tryz.prog Tryz.laysC245_ren := {
  mixed := by kernel_rfl
  f129 := Tryz.func206.trans (congrArg some (by kernel_rfl))
  f171 := Tryz.func191.trans (congrArg some (by kernel_rfl))
  f205 := Tryz.func190.trans (congrArg some (by kernel_rfl))
  f243 := Tryz.func197.trans (congrArg some (by kernel_rfl))
  f245 := Tryz.func156.trans (congrArg some (by kernel_rfl))
  f246 := Tryz.func200.trans (congrArg some (by kernel_rfl))
  f279 := Tryz.func172.trans (congrArg some (by kernel_rfl))
  f280 := Tryz.func173.trans (congrArg some (by kernel_rfl))
  f281 := Tryz.func174.trans (congrArg some (by kernel_rfl))
  f282 := Tryz.func175.trans (congrArg some (by kernel_rfl))
  f283 := Tryz.func201.trans (congrArg some (by kernel_rfl))
  f284 := Tryz.func202.trans (congrArg some (by kernel_rfl))
  f285 := Tryz.func203.trans (congrArg some (by kernel_rfl))
  f286 := Tryz.func204.trans (congrArg some (by kernel_rfl))
  f316 := Tryz.func118.trans (congrArg some (by kernel_rfl))
  f317 := Tryz.func205.trans (congrArg some (by kernel_rfl))
  f318 := Tryz.func207.trans (congrArg some (by kernel_rfl))
  f319 := Tryz.func208.trans (congrArg some (by kernel_rfl))
  f320 := Tryz.func209.trans (congrArg some (by kernel_rfl))
  f337 := Tryz.func210.trans (congrArg some (by kernel_rfl))
  f338 := Tryz.func211.trans (congrArg some (by kernel_rfl))
  t0 := Tryz.underlying0
  a0 := Tryz.isAgg0
  z0 := Tryz.sizeOf0
  v0 := Tryz.zeroValue0
  t2 := Tryz.underlying2
  a2 := Tryz.isAgg2
  z2 := Tryz.sizeOf2
  v2 := Tryz.zeroValue2
  t3 := Tryz.underlying3
  a3 := Tryz.isAgg3
  z3 := Tryz.sizeOf3
  v3 := Tryz.zeroValue3
  t4 := Tryz.underlying4
  a4 := Tryz.isAgg4
  z4 := Tryz.sizeOf4
  v4 := Tryz.zeroValue4
  t5 := Tryz.underlying5
  a5 := Tryz.isAgg5
  z5 := Tryz.sizeOf5
  v5 := Tryz.zeroValue5
  t9 := Tryz.underlying9
  a9 := Tryz.isAgg9
  z9 := Tryz.sizeOf9
  v9 := Tryz.zeroValue9
  t20 := Tryz.underlying20
  a20 := Tryz.isAgg20
  z20 := Tryz.sizeOf20
  v20 := Tryz.zeroValue20
  t37 := Tryz.underlying22
  a37 := Tryz.isAgg22
  z37 := Tryz.sizeOf22
  v37 := Tryz.zeroValue22
  t46 := Tryz.underlying128
  a46 := Tryz.isAgg128
  z46 := Tryz.sizeOf128
  v46 := Tryz.zeroValue128
  t51 := Tryz.underlying145
  a51 := Tryz.isAgg145
  z51 := Tryz.sizeOf145
  v51 := Tryz.zeroValue145
  t53 := Tryz.underlying165
  a53 := Tryz.isAgg165
  z53 := Tryz.sizeOf165
  v53 := Tryz.zeroValue165
  t75 := Tryz.underlying141
  a75 := Tryz.isAgg141
  z75 := Tryz.sizeOf141
  v75 := Tryz.zeroValue141
  t127 := Tryz.underlying160
  a127 := Tryz.isAgg160
  z127 := Tryz.sizeOf160
  v127 := Tryz.zeroValue160
  t143 := Tryz.underlying200
  a143 := Tryz.isAgg200
  z143 := Tryz.sizeOf200
  v143 := Tryz.zeroValue200
  t145 := Tryz.underlying202
  a145 := Tryz.isAgg202
  z145 := Tryz.sizeOf202
  v145 := Tryz.zeroValue202
  t167 := Tryz.underlying177
  a167 := Tryz.isAgg177
  z167 := Tryz.sizeOf177
  v167 := Tryz.zeroValue177
  t168 := Tryz.underlying180
  a168 := Tryz.isAgg180
  z168 := Tryz.sizeOf180
  v168 := Tryz.zeroValue180
  t171 := Tryz.underlying204
  a171 := Tryz.isAgg204
  z171 := Tryz.sizeOf204
  v171 := Tryz.zeroValue204
  t173 := Tryz.underlying207
  a173 := Tryz.isAgg207
  z173 := Tryz.sizeOf207
  v173 := Tryz.zeroValue207
  t210 := Tryz.underlying195
  a210 := Tryz.isAgg195
  z210 := Tryz.sizeOf195
  v210 := Tryz.zeroValue195
  t212 := Tryz.underlying210
  a212 := Tryz.isAgg210
  z212 := Tryz.sizeOf210
  v212 := Tryz.zeroValue210
  t213 := Tryz.underlying211
  a213 := Tryz.isAgg211
  z213 := Tryz.sizeOf211
  t232 := Tryz.underlying214
  a232 := Tryz.isAgg214
  z232 := Tryz.sizeOf214
  v232 := Tryz.zeroValue214
  t233 := Tryz.underlying215
  a233 := Tryz.isAgg215
  z233 := Tryz.sizeOf215
  v233 := Tryz.zeroValue215
  g15 := by kernel_rfl
  g16 := by kernel_rfl
  g17 := by kernel_rfl
  g18 := by kernel_rfl
  g19 := by kernel_rfl
  t80 := Tryz.underlying164
  a80 := Tryz.isAgg164
  z80 := Tryz.sizeOf164
  v80 := Tryz.zeroValue164
  i0 := by kernel_rfl
  i2 := by kernel_rfl
  i3 := by kernel_rfl
  i4 := by kernel_rfl
  i5 := by kernel_rfl
  i9 := by kernel_rfl
  i20 := by kernel_rfl
  i37 := by kernel_rfl
  i46 := by kernel_rfl
  i51 := by kernel_rfl
  i53 := by kernel_rfl
  i75 := by kernel_rfl
  i80 := by kernel_rfl
  i127 := by kernel_rfl
  i143 := by kernel_rfl
  i145 := by kernel_rfl
  i167 := by kernel_rfl
  i168 := by kernel_rfl
  i171 := by kernel_rfl
  i173 := by kernel_rfl
  i210 := by kernel_rfl
  i212 := by kernel_rfl
  i232 := by kernel_rfl
  i233 := by kernel_rfl
  m15 := by kernel_rfl
  m16 := by kernel_rfl
  m17 := by kernel_rfl
  m18 := by kernel_rfl
  m19 := by kernel_rfl
  c0 := by kernel_rfl
  c2 := by kernel_rfl
  c3 := by kernel_rfl
  c4 := by kernel_rfl
  c5 := by kernel_rfl
  c9 := by kernel_rfl
  c20 := by kernel_rfl
  c37 := by kernel_rfl
  c46 := by kernel_rfl
  c51 := by kernel_rfl
  c53 := by kernel_rfl
  c75 := by kernel_rfl
  c80 := by kernel_rfl
  c127 := by kernel_rfl
  c143 := by kernel_rfl
  c145 := by kernel_rfl
  c167 := by kernel_rfl
  c168 := by kernel_rfl
  c171 := by kernel_rfl
  c173 := by kernel_rfl
  c210 := by kernel_rfl
  c212 := by kernel_rfl
  c213 := by kernel_rfl
  c232 := by kernel_rfl
  c233 := by kernel_rfl }
end Go.Proofs
namespace Go.Proofs.YtmikgpmnffdnnaaGreatDoor
open Go.RowKit
theorem lowC (c : Int) (w : World) : Calls Tryz.prog 186 #[.int .u8 c] w fun e w' => e = .returned (.int .u8 (bits .or .u8 c 32)) ∧ w' = w := by
  go_enter Tryz.func186, Tryz.ntmps186
  go_wp2
  go_ret
  exact ⟨rfl, rfl⟩
/-- the library's two errors are errors -/
def Er (w : World) : Prop := (∃ tp p, w.cell? ⟨3, 0, none⟩ = some (.iface tp p)) ∧ (∃ tp p, w.cell? ⟨4, 0, none⟩ = some (.iface tp p))
theorem er_lt {w : World} {g : Nat} {v : Value} (h : w.cell? ⟨g, 0, none⟩ = some v) : g < w.heap.size := by
  rcases Nat.lt_or_ge g w.heap.size with h1 | h1
  · exact h1
  · unfold World.cell? at h
    rw [Array.getElem?_eq_none h1] at h
    simp at h
theorem er_below {w w' : World} (h : Er w) (hb : Below w.heap.size w w') : Er w' := by
  obtain ⟨⟨t1, p1, h1⟩, t2, p2, h2⟩ := h
  exact ⟨⟨t1, p1, by rw [hb.cell (p := ⟨3, 0, none⟩) (er_lt h1)]; exact h1⟩, t2, p2, by rw [hb.cell (p := ⟨4, 0, none⟩) (er_lt h2)]; exact h2⟩
end Go.Proofs.YtmikgpmnffdnnaaGreatDoor
namespace Go.Proofs.YtmikgpmnffdnnaaGreatDoor
open Go.RowKit
set_option maxRecDepth 100000 in
theorem puEmpty (w : World) : Calls Tryz.prog 167 #[.string ⟨#[]⟩, .int .i64 10, .int .i64 63] w fun e w' => e = .returned (.tuple #[.int .u64 0, .iface 177 (.int .i64 2)]) ∧ w' = w := by
  go_enter Tryz.func167, Tryz.ntmps167
  go_wp2
  go_ret2
  exact ⟨rfl, rfl⟩
/-- the reading's step: what is gathered so far, as the model's number, beside what the rest tells -/
def Pu (bs : List UInt8) (k : Nat) (a : Int) : Prop := ∃ acc : Nat, a = (acc : Int) ∧ acc ≤ 9223372036854775807 ∧ Lib.parseUintM 9223372036854775807 0 bs = Lib.parseUintM 9223372036854775807 acc (bs.drop k)
theorem pu_bound {bs : List UInt8} {k : Nat} {a : Int} (h : Pu bs k a) : 0 ≤ a ∧ a ≤ 9223372036854775807 := by
  obtain ⟨acc, rfl, h, _⟩ := h
  omega
theorem pu_drop {bs : List UInt8} {k : Nat} (h : k < bs.length) : bs.drop k = bs[k] :: bs.drop (k + 1) := List.drop_eq_getElem_cons h
theorem pu_cut {bs : List UInt8} {k : Nat} {a : Int} (h : Pu bs k a) (hk : k < bs.length) (h0 : 48 ≤ bs[k].toNat) (h1 : bs[k].toNat ≤ 57) (hc : 1844674407370955162 ≤ a) : Lib.parseUintM 9223372036854775807 0 bs = .range := by
  obtain ⟨acc, rfl, _, h⟩ := h
  have hc' : 1844674407370955162 ≤ acc := by omega
  rw [h, pu_drop hk]
  simp [Lib.parseUintM, h0, h1, hc']
theorem pu_over {bs : List UInt8} {k : Nat} {a : Int} (h : Pu bs k a) (hk : k < bs.length) (h0 : 48 ≤ bs[k].toNat) (h1 : bs[k].toNat ≤ 57) (hc : a < 1844674407370955162) (ho : 9223372036854775807 < a * 10 + ((bs[k].toNat : Int) - 48)) : Lib.parseUintM 9223372036854775807 0 bs = .range := by
  obtain ⟨acc, rfl, _, h⟩ := h
  have hc' : ¬ 1844674407370955162 ≤ acc := by omega
  have ho' : 9223372036854775807 < acc * 10 + (bs[k].toNat - 48) := by omega
  rw [h, pu_drop hk]
  simp [Lib.parseUintM, h0, h1, hc', ho']
theorem pu_next {bs : List UInt8} {k : Nat} {a : Int} (h : Pu bs k a) (hk : k < bs.length) (h0 : 48 ≤ bs[k].toNat) (h1 : bs[k].toNat ≤ 57) (hc : a < 1844674407370955162) (ho : a * 10 + ((bs[k].toNat : Int) - 48) ≤ 9223372036854775807) : Pu bs (k + 1) (a * 10 + ((bs[k].toNat : Int) - 48)) := by
  obtain ⟨acc, rfl, _, h⟩ := h
  have hc' : ¬ 1844674407370955162 ≤ acc := by omega
  have ho' : ¬ 9223372036854775807 < acc * 10 + (bs[k].toNat - 48) := by omega
  refine ⟨acc * 10 + (bs[k].toNat - 48), by omega, by omega, ?_⟩
  rw [h, pu_drop hk]
  simp [Lib.parseUintM, h0, h1, hc', ho']
theorem pu_bad {bs : List UInt8} {k : Nat} {a : Int} (h : Pu bs k a) (hk : k < bs.length) (hd : ¬ (48 ≤ bs[k].toNat ∧ bs[k].toNat ≤ 57)) : Lib.parseUintM 9223372036854775807 0 bs = .syntax := by
  obtain ⟨acc, rfl, _, h⟩ := h
  rw [h, pu_drop hk]
  simp [Lib.parseUintM, hd]
theorem pu_end {bs : List UInt8} {k : Nat} {a : Int} (h : Pu bs k a) (hk : bs.length ≤ k) : Lib.uintTupleM 177 9223372036854775807 (Lib.parseUintM 9223372036854775807 0 bs) = .tuple #[.int .u64 a, .nilIface] := by
  obtain ⟨acc, rfl, _, h⟩ := h
  rw [h, List.drop_eq_nil_of_le hk]
  rfl
set_option maxHeartbeats 32000000 in
set_option maxRecDepth 100000 in
theorem puSome (t : ByteArray) (hne : t.size ≠ 0) (hmax : t.size ≤ 9223372036854775806) (w : World) :
    Calls Tryz.prog 167 #[.string t, .int .i64 10, .int .i64 63] w fun e w' => e = .returned (Lib.uintTupleM 177 9223372036854775807 (Lib.parseUintM 9223372036854775807 0 t.data.toList)) ∧ w' = Lib.bytesWorld w 5 t := by
  have hemp : t.toList.isEmpty = false := by
    rw [← decide_eq_emptyBytes]
    exact decide_eq_false (fun h => hne (by rw [h]; rfl))
  have hcv := Lib.run_convert_string_bytes (P := Tryz.prog) w 9 22 5 t (u := .string) Tryz.underlying9 Tryz.underlying22 Tryz.underlying5
  have hB : ∀ j, j < t.size → (Lib.bytesWorld w 5 t).cell? ⟨w.heap.size, j, none⟩ = some (.int .u8 (t.data.toList.getD j 0).toNat) := fun j hj => Lib.bytesWorld_cell w 5 t j hj
  generalize Lib.bytesWorld w 5 t = W1 at hcv hB ⊢
  obtain ⟨bs, hL⟩ : ∃ bs, bs = t.data.toList := ⟨_, rfl⟩
  have LN : Hid (bs.length = t.size) := by unfold Hid; rw [hL, Lib.size_eq]
  rw [← hL] at hB ⊢
  have CB := hide' hB
  clear hL hB
  have hmv : IntKind.u64.wrap (IntKind.u64.wrap 9223372036854775808 - 1) = 9223372036854775807 := by
    rw [IntKind.wrap_u64, IntKind.wrap_u64]
    decide
  go_enter Tryz.func167, Tryz.ntmps167
  go_wp2
  go_loop [12, 13, 101] (fun vu vn vi => ∃ (k : Nat) (a : Int), vu = .bool false ∧ vn = .int .u64 a ∧ vi = .int .i64 k ∧ k ≤ t.size ∧ Hid (Pu bs k a)) (fun _ _ vi => t.size - (intOf vi).toNat)
  case atStart => exact ⟨0, 0, rfl, rfl, rfl, Nat.zero_le _, 0, rfl, by decide, rfl⟩
  case round =>
    obtain ⟨k, a, rfl, rfl, rfl, hk, P⟩ := hrel
    obtain ⟨a0, a1⟩ := pu_bound P.out
    by_cases hkn : k < t.size
    · have G : Hid (k < bs.length) := by unfold Hid; rw [LN.out]; exact hkn
      have hc := CB.out k hkn
      have hget : bs.getD k 0 = bs[k]'G.out := by simp [List.getD, List.getElem?_eq_getElem G.out]
      rw [hget] at hc
      clear hget
      have X1 := hide' (pu_cut P.out G.out)
      have X2 := hide' (pu_over P.out G.out)
      have X3 := hide' (pu_next P.out G.out)
      have X4 := hide' (pu_bad P.out G.out)
      have hc256 : (bs[k]'G.out).toNat < 256 := (bs[k]'G.out).toNat_lt
      generalize (bs[k]'G.out).toNat = c at hc X1 X2 X3 X4 hc256
      by_cases hd : 48 ≤ c ∧ c ≤ 57
      · obtain ⟨d0, d1⟩ := hd
        by_cases hcut : 1844674407370955162 ≤ a
        · have R := hide' (X1.out d0 d1 hcut)
          clear X1 X2 X3 X4 P
          go_wp2
          go_ret2
          rw [R.out]
          exact ⟨rfl, rfl⟩
        · have icut : a < 1844674407370955162 := by omega
          by_cases hov : 9223372036854775807 < a * 10 + ((c : Int) - 48)
          · have R := hide' (X2.out d0 d1 icut hov)
            have iw : a * 10 + ((c : Int) - 48) < 18446744073709551616 ∨ 18446744073709551616 ≤ a * 10 + ((c : Int) - 48) := by omega
            clear X1 X2 X3 X4 P hcut
            rcases iw with iw | iw
            · go_wp2
              go_ret2
              rw [R.out]
              exact ⟨rfl, rfl⟩
            · have hwr : IntKind.u64.wrap (a * 10 + ((c : Int) - 48)) = a * 10 + ((c : Int) - 48) - 18446744073709551616 := by
                rw [IntKind.wrap_u64]
                omega
              go_wp2
              go_ret2
              rw [R.out]
              exact ⟨rfl, rfl⟩
          · have iov : a * 10 + ((c : Int) - 48) ≤ 9223372036854775807 := by omega
            have R := hide' (X3.out d0 d1 icut iov)
            clear X1 X2 X3 X4 P hcut hov
            go_wp2
            refine ⟨⟨k + 1, a * 10 + ((c : Int) - 48), rfl, (by first | rfl | (congr 1; omega)), (by first | rfl | (congr 1; omega)), by omega, R⟩, by simp [intOf]; omega⟩
      · have R := hide' (X4.out hd)
        clear X1 X2 X3 X4 P
        have hv0 := bits_lo_u8 .or (c : Int) 32
        have hv1 := bits_hi_u8 .or (c : Int) 32
        have hu0 := bits_lo_u8 .or 95 32
        have hu1 := bits_hi_u8 .or 95 32
        go_wp2_with (go_at_call 186; refine (lowC _ _).mono ?_; rintro e w' ⟨rfl, rfl⟩)
        all_goals go_ret2
        all_goals (rw [R.out]; exact ⟨rfl, rfl⟩)
    · have R := hide' (pu_end P.out (by rw [LN.out]; omega))
      clear P
      go_wp2
      go_ret2
      rw [R.out]
      exact ⟨rfl, rfl⟩
end Go.Proofs.YtmikgpmnffdnnaaGreatDoor
namespace Go.Proofs.YtmikgpmnffdnnaaGreatDoor
open Go.RowKit
/-- what ParseUint tells of bytes -/
def puR (l : List UInt8) : Lib.NumEnd Nat := if l = [] then .syntax else Lib.parseUintM 9223372036854775807 0 l
theorem pu_dig : ∀ (l : List UInt8) (acc u : Nat), Lib.parseUintM 9223372036854775807 acc l = .ok u → l.all digF = true := by
  intro l
  induction l with
  | nil => intro _ _ _; rfl
  | cons c r ih =>
    intro acc u h
    simp only [Lib.parseUintM] at h
    split at h
    · rename_i hd
      split at h
      · cases h
      · split at h
        · cases h
        · rw [List.all_cons, Bool.and_eq_true]
          exact ⟨decide_eq_true hd, ih _ _ h⟩
    · cases h
theorem pu_num (K M : Nat) (hK : K ≤ 1000000000000000000) (hM : K ≤ M) : ∀ (l : List UInt8) (acc : Nat), l.all digF = true → (acc + 1) * 10 ^ l.length ≤ K → Lib.parseUintM M acc l = .ok (numA acc l) := by
  intro l
  induction l with
  | nil =>
    intro acc _ _
    rw [numA_nil]
    simp only [Lib.parseUintM]
  | cons c r ih =>
    intro acc h hb
    rw [List.all_cons, Bool.and_eq_true] at h
    have hd : 48 ≤ c.toNat ∧ c.toNat ≤ 57 := of_decide_eq_true h.1
    have h3 : (acc * 10 + (c.toNat - 48) + 1) * 10 ^ r.length ≤ ((acc + 1) * 10) * 10 ^ r.length := Nat.mul_le_mul_right _ (by omega)
    rw [List.length_cons, Nat.pow_succ, Nat.mul_comm (10 ^ r.length) 10, ← Nat.mul_assoc] at hb
    have h4 := Nat.le_trans h3 hb
    have h5 : acc * 10 + (c.toNat - 48) + 1 ≤ (acc * 10 + (c.toNat - 48) + 1) * 10 ^ r.length := Nat.le_mul_of_pos_right _ (Nat.pow_pos (by decide))
    have h6 := Nat.le_trans h5 h4
    have hc : ¬ 1844674407370955162 ≤ acc := by omega
    have ho : ¬ M < acc * 10 + (c.toNat - 48) := by omega
    rw [numA_cons]
    simp only [Lib.parseUintM, if_pos hd, if_neg hc, if_neg ho]
    exact ih _ h.2 h4
theorem puR_num {l : List UInt8} (h : isNum l = true) : puR l = .ok (numF l) := by
  obtain ⟨h1, h2, h3⟩ := isNum_parts h
  unfold puR
  rw [if_neg (by intro e; rw [e] at h1; simp at h1)]
  refine pu_num (10 ^ 18) 9223372036854775807 (Nat.le_of_ble_eq_true rfl) (Nat.le_of_ble_eq_true rfl) l 0 h3 ?_
  rw [Nat.zero_add, Nat.one_mul]
  exact Nat.pow_le_pow_right (by decide) h2
theorem puR_ok {l : List UInt8} {u : Nat} (h : puR l = .ok u) : isNum l = decide (l.length ≤ 18) ∧ u ≤ 9223372036854775807 := by
  unfold puR at h
  split at h
  · cases h
  · rename_i hn
    have h1 : 1 ≤ l.length := by
      rcases Nat.eq_zero_or_pos l.length with e | e
      · exact absurd (List.eq_nil_of_length_eq_zero e) hn
      · exact e
    refine ⟨?_, Lib.parseUintM_le _ _ _ _ (by decide) h⟩
    unfold isNum
    rw [decide_eq_true h1, pu_dig l 0 u h, Bool.true_and, Bool.and_true]
theorem puR_bad {l : List UInt8} (h : ∀ u, ¬ puR l = .ok u) : isNum l = false := by
  cases e : isNum l with
  | false => rfl
  | true => exact absurd (puR_num e) (h _)
theorem innerU (l : List UInt8) (hl : l.length ≤ 281474976710656) (w : World) :
    Calls Tryz.prog 167 #[.string ⟨l.toArray⟩, .int .i64 10, .int .i64 63] w fun e w' => e = .returned (Lib.uintTupleM 177 9223372036854775807 (puR l)) ∧ Below w.heap.size w w' := by
  by_cases h : l = []
  · subst h
    refine (puEmpty w).mono ?_
    rintro e w' ⟨rfl, rfl⟩
    exact ⟨rfl, Below.refl _ _⟩
  · have e1 : puR l = Lib.parseUintM 9223372036854775807 0 l := if_neg h
    have hs : (⟨l.toArray⟩ : ByteArray).size = l.length := size_l l
    have h0 : ¬ (⟨l.toArray⟩ : ByteArray).size = 0 := by rw [hs]; intro e; exact h (List.eq_nil_of_length_eq_zero e)
    refine (puSome ⟨l.toArray⟩ h0 (by rw [hs]; omega) w).mono ?_
    rintro e w' ⟨rfl, rfl⟩
    rw [e1]
    exact ⟨by simp, Lib.bytesWorld_below _ _ _⟩
set_option maxHeartbeats 1000000 in
set_option maxRecDepth 20000 in
theorem parseOk (l : List UInt8) (hl : l.length ≤ 281474976710656) (u : Nat) (hu : puR l = .ok u) (w : World) :
    Calls Tryz.prog 150 #[.string ⟨l.toArray⟩, .int .i64 10, .int .i64 63] w fun e w' => e = .returned (.tuple #[.int .u64 (u : Int), .nilIface]) ∧ Below w.heap.size w w' := by
  have c := innerU l hl w
  rw [hu] at c
  have C : Hid (Calls Tryz.prog 167 #[.string ⟨l.toArray⟩, .int .i64 10, .int .i64 63] w fun e w' => e = .returned (.tuple #[.int .u64 (u : Int), .nilIface]) ∧ Below w.heap.size w w') := c
  have ub := (puR_ok hu).2
  obtain ⟨a, ea⟩ : ∃ a : Int, a = (u : Int) := ⟨_, rfl⟩
  have a0 : 0 ≤ a := by omega
  have a1 : a ≤ 9223372036854775807 := by omega
  rw [← ea] at C ⊢
  clear c hu ea ub
  go_enter Tryz.func150, Tryz.ntmps150
  go_wp2_with fail
  refine C.out.mono ?_
  rintro e w1 ⟨rfl, b1⟩
  have B1 := hide' b1
  clear b1 C
  go_wp2_with fail
  go_ret2
  exact ⟨rfl, B1.out⟩
set_option maxHeartbeats 1000000 in
set_option maxRecDepth 20000 in
theorem parseBad (l : List UInt8) (hl : l.length ≤ 281474976710656) (hb : ∀ u, ¬ puR l = .ok u) (w : World) (E : Er w) :
    Calls Tryz.prog 150 #[.string ⟨l.toArray⟩, .int .i64 10, .int .i64 63] w fun e w' => ∃ (a : Int) (N : Nat), e = .returned (.tuple #[.int .u64 a, .iface 180 (.pointer (some ⟨N, 0, none⟩))]) ∧ 0 ≤ a ∧ a ≤ 9223372036854775807 ∧ Below w.heap.size w w' := by
  have c := innerU l hl w
  have EV := hide' E
  have hs : (⟨l.toArray⟩ : ByteArray).size ≤ 281474976710656 := by rw [size_l]; exact hl
  cases hr : puR l with
  | ok u => exact absurd hr (hb u)
  | «syntax» =>
    rw [hr] at c
    have C : Hid (Calls Tryz.prog 167 #[.string ⟨l.toArray⟩, .int .i64 10, .int .i64 63] w fun e w' => e = .returned (.tuple #[.int .u64 0, .iface 177 (.int .i64 2)]) ∧ Below w.heap.size w w') := c
    clear c hr hb E
    go_enter Tryz.func150, Tryz.ntmps150
    go_wp2_with fail
    refine C.out.mono ?_
    rintro e w1 ⟨rfl, b1⟩
    have B1 := hide' b1
    obtain ⟨⟨tp, p, hv⟩, _⟩ := er_below EV.out b1
    have K := hide' (Any.strconv_toError_syntax Tryz.laysC245 ⟨#[80, 97, 114, 115, 101, 85, 105, 110, 116]⟩ ⟨l.toArray⟩ 10 63 (.iface tp p) w1 hs hv (.inr ⟨tp, p, rfl⟩))
    clear b1 C hv
    go_wp2_with fail
    refine K.out.mono ?_
    rintro e w2 ⟨N, rfl, _, _, b2⟩
    have B2 := hide' (bt' B1.out b2)
    clear b2 K
    go_wp2_with fail
    go_ret2
    exact ⟨0, N, rfl, by omega, by omega, B2.out⟩
  | range =>
    rw [hr] at c
    have C : Hid (Calls Tryz.prog 167 #[.string ⟨l.toArray⟩, .int .i64 10, .int .i64 63] w fun e w' => e = .returned (.tuple #[.int .u64 9223372036854775807, .iface 177 (.int .i64 1)]) ∧ Below w.heap.size w w') := c
    clear c hr hb E
    go_enter Tryz.func150, Tryz.ntmps150
    go_wp2_with fail
    refine C.out.mono ?_
    rintro e w1 ⟨rfl, b1⟩
    have B1 := hide' b1
    obtain ⟨_, tp, p, hv⟩ := er_below EV.out b1
    have K := hide' (Any.strconv_toError_range Tryz.laysC245 ⟨#[80, 97, 114, 115, 101, 85, 105, 110, 116]⟩ ⟨l.toArray⟩ 10 63 (.iface tp p) w1 hs hv (.inr ⟨tp, p, rfl⟩))
    clear b1 C hv
    go_wp2_with fail
    refine K.out.mono ?_
    rintro e w2 ⟨N, rfl, _, _, b2⟩
    have B2 := hide' (bt' B1.out b2)
    clear b2 K
    go_wp2_with fail
    go_ret2
    exact ⟨9223372036854775807, N, rfl, by omega, by omega, B2.out⟩
set_option maxHeartbeats 1000000 in
set_option maxRecDepth 20000 in
theorem numTok (l : List UInt8) (hl : l.length ≤ 281474976710656) (w : World) (E : Er w) :
    Calls Tryz.prog 120 #[.string ⟨l.toArray⟩] w fun e w' => ∃ x : Int, e = .returned (.tuple #[.int .i64 x, .bool (isNum l)]) ∧ Hid (isNum l = true → x = (numF l : Int)) ∧ (0 ≤ x ∧ x ≤ 9223372036854775807) ∧ Below w.heap.size w w' := by
  have hz : (⟨l.toArray⟩ : ByteArray).size = l.length := size_l l
  by_cases h : ∃ u, puR l = .ok u
  · obtain ⟨u, hu⟩ := h
    have C := hide' (parseOk l hl u hu w)
    obtain ⟨h1, h2⟩ := puR_ok hu
    have XN : Hid (isNum l = true → (u : Int) = (numF l : Int)) := fun hn => by
      have := (puR_num hn).symm.trans hu
      cases this; rfl
    obtain ⟨a, ea⟩ : ∃ a : Int, a = (u : Int) := ⟨_, rfl⟩
    have a0 : 0 ≤ a := by omega
    have a1 : a ≤ 9223372036854775807 := by omega
    rw [← ea] at C XN
    obtain ⟨d, ed⟩ : ∃ d, d = isNum l := ⟨_, rfl⟩
    rw [← ed] at h1 XN ⊢
    have H1 := hide' h1
    clear hu ea h1 h2 E ed
    generalize (⟨l.toArray⟩ : ByteArray) = t at C hz ⊢
    go_enter Tryz.func120, Tryz.ntmps120
    go_wp2_with fail
    refine C.out.mono ?_
    rintro e w1 ⟨rfl, b1⟩
    have B1 := hide' b1
    clear b1 C
    have D : Hid (d = decide ((t.size : Int) ≤ 18)) := by
      unfold Hid
      rw [H1.out, hz]
      exact decide_eq_decide.2 ⟨fun h => by omega, fun h => by omega⟩
    have HZ := hide' hz
    clear hz
    go_wp2_with fail
    go_ret2
    exact ⟨a, by rw [D.out]; rfl, XN, ⟨a0, a1⟩, B1.out⟩
  · have hb : ∀ u, ¬ puR l = .ok u := fun u e => h ⟨u, e⟩
    have C := hide' (parseBad l hl hb w E)
    have D := hide' (puR_bad hb)
    clear h hb E
    rw [D.out]
    generalize (⟨l.toArray⟩ : ByteArray) = t at C hz ⊢
    have HZ := hide' hz
    clear hz
    go_enter Tryz.func120, Tryz.ntmps120
    go_wp2_with fail
    refine C.out.mono ?_
    rintro e w1 ⟨a, N, rfl, a0, a1, b1⟩
    have B1 := hide' b1
    clear b1 C
    go_wp2_with fail
    go_ret2
    exact ⟨a, rfl, fun e => (by cases e), ⟨a0, a1⟩, B1.out⟩
end Go.Proofs.YtmikgpmnffdnnaaGreatDoor
namespace Go.Proofs.YtmikgpmnffdnnaaGreatDoor
open Go.RowKit
/-- a block of two cells that may be written, and what they hold -/
def Duo (b : Nat) (W : World) (v0 v1 : Value) : Prop := W.cell? ⟨b, 0, none⟩ = some v0 ∧ W.cell? ⟨b, 1, none⟩ = some v1 ∧ W.frozen? ⟨b, 0, none⟩ = false ∧ W.frozen? ⟨b, 1, none⟩ = false ∧ b < W.heap.size
theorem duo_below {b : Nat} {W W' : World} {v0 v1 : Value} (h : Duo b W v0 v1) (hb : Below W.heap.size W W') : Duo b W' v0 v1 := by
  obtain ⟨h0, h1, f0, f1, hz⟩ := h
  have c : ∀ o, W'.cell? ⟨b, o, none⟩ = W.cell? ⟨b, o, none⟩ := fun o => hb.cell (p := ⟨b, o, none⟩) hz
  have f : ∀ o, W'.frozen? ⟨b, o, none⟩ = W.frozen? ⟨b, o, none⟩ := fun o => hb.frozen (p := ⟨b, o, none⟩) hz
  exact ⟨by rw [c]; exact h0, by rw [c]; exact h1, by rw [f]; exact f0, by rw [f]; exact f1, Nat.lt_of_lt_of_le hz hb.size⟩
def put2 (b : Nat) (W : World) (v0 v1 : Value) : World := (W.setCell ⟨b, 0, none⟩ v0).setCell ⟨b, 1, none⟩ v1
theorem duo_store {b : Nat} {W : World} {u0 u1 : Value} (h : Duo b W u0 u1) (v0 v1 : Value) : (put2 b W v0 v1).cell? ⟨b, 0, none⟩ = some v0 ∧ (put2 b W v0 v1).cell? ⟨b, 1, none⟩ = some v1 := by
  obtain ⟨h0, h1, _⟩ := h
  unfold put2
  refine ⟨?_, ?_⟩
  · rw [oth4 (by decide)]
    exact World.cell?_setCell_same _ _ _ h0
  · exact World.cell?_setCell_same (u := u1) _ _ _ (by rw [oth4 (by decide)]; exact h1)
theorem put2_below {w W : World} {b : Nat} (h : Below w.heap.size w W) (hb : w.heap.size ≤ b) (v0 v1 : Value) : Below w.heap.size w (put2 b W v0 v1) := (h.setCell hb _).setCell hb _
theorem duo_lit (w : World) (v0 v1 : Value) (t : TypeId) : Duo w.heap.size (w.alloc (.cells #[v0, v1] t)) v0 v1 := ⟨by simp, by simp, by simp, by simp, by simp⟩
/-- a body's end and an error as the model holds them -/
def ansV (q : Int × Int × Int) : Value := .tuple #[.agg #[.int .i64 q.1, .int .i64 q.2.1], .int .i64 q.2.2]
theorem cod_bad1 (ws : List (List UInt8)) : codOf 0 ws = (0, 0, 62) := by unfold codOf; rw [if_pos (.inl rfl)]
theorem cod_bad2 {m : Int} {ws : List (List UInt8)} (h : ¬ ws = [chunkedB]) : codOf m ws = (0, 0, 62) := by unfold codOf; rw [if_pos (.inr h)]
theorem cod_good {m : Int} (h : ¬ m = 0) : codOf m [chunkedB] = (2, 0, 0) := by unfold codOf; rw [if_neg (by simp [h])]
theorem one_of {ws : List (List UInt8)} (h : ws.length = 1) : ∃ x, ws = [x] := by
  match ws, h with
  | [x], _ => exact ⟨x, rfl⟩
set_option maxRecDepth 20000 in
set_option maxHeartbeats 2000000 in
theorem codTok (m : Int) (v : Value) (ws : List (List UInt8)) (w : World) (hv : Holds w v ws) (hl : ws.length ≤ 1048576) :
    Calls Tryz.prog 89 #[.int .i64 m, v] w fun e w' => e = .returned (ansV (codOf m ws)) ∧ Below w.heap.size w w' := by
  have b0 := below_alloc' w (.cells #[.int .i64 0, .int .i64 0] 60)
  have D0 := duo_lit w (.int .i64 0) (.int .i64 0) 60
  obtain ⟨ao, ca, b, o, rfl, hc⟩ := holds_parts (holds_mono hv b0)
  have C := hide' hc
  have B0 := hide' b0
  have H0 := hide' D0
  obtain ⟨i0, i1, f0, f1, fz⟩ := D0
  clear hv hc b0
  obtain ⟨q, eq⟩ : ∃ q, q = codOf m ws := ⟨_, rfl⟩
  rw [← eq]
  have EQ := hide' eq
  clear eq
  by_cases hm : m = 0
  · subst hm
    have R := hide' (EQ.out.trans (cod_bad1 ws))
    clear C EQ
    generalize ws.length = n at hl ⊢
    go_enter Tryz.func89, Tryz.ntmps89
    go_wp2_with fail
    exact bodyPost_ret (v := ansV (0, 0, 62)) (by simp [results, Tryz.results89, go_sem, ansV]) rfl ⟨by rw [R.out], below_alloc' w _⟩
  · have hm1 : (m == 0) = false := by simpa using hm
    by_cases h1 : ws.length = 1
    · obtain ⟨x, rfl⟩ := one_of h1
      obtain ⟨rfl, hblt, hcell⟩ := C.out (by simp)
      have cx := hcell 0 (by simp)
      simp only [List.getElem_cons_zero, Nat.add_zero, S] at cx
      have hlen : [x].length = 1 := rfl
      rw [hlen]
      clear hcell hlen h1
      by_cases hx : x = chunkedB
      · subst hx
        have R := hide' (EQ.out.trans (cod_good hm))
        unfold chunkedB at cx
        clear hm EQ C
        go_enter Tryz.func89, Tryz.ntmps89
        go_wp2_with fail
        exact bodyPost_ret (v := ansV (2, 0, 0)) (by simp [results, Tryz.results89, go_sem, ansV]) rfl ⟨by rw [R.out], below_alloc' w _⟩
      · have R := hide' (EQ.out.trans (cod_bad2 (by simpa using hx)))
        have hne := ba_eql' _ _ hx
        have hne2 : (x == chunkedB) = false := by simpa using hx
        unfold chunkedB at hne hne2
        clear hm hx EQ C
        go_enter Tryz.func89, Tryz.ntmps89
        go_wp2_with fail
        exact bodyPost_ret (v := ansV (0, 0, 62)) (by simp [results, Tryz.results89, go_sem, ansV]) rfl ⟨by rw [R.out], below_alloc' w _⟩
    · have R := hide' (EQ.out.trans (cod_bad2 (fun e => h1 (by rw [e]; rfl))))
      have t1 : ((ws.length : Int) != 1) = true := by simp; omega
      clear hm EQ C
      generalize ws.length = n at hl t1 h1 ⊢
      clear h1
      go_enter Tryz.func89, Tryz.ntmps89
      go_wp2_with fail
      exact bodyPost_ret (v := ansV (0, 0, 62)) (by simp [results, Tryz.results89, go_sem, ansV]) rfl ⟨by rw [R.out], below_alloc' w _⟩
theorem lens_nil : lensOf [] = (0, 0, 60) := by simp only [lensOf]
theorem lens_cons (x : List UInt8) (r : List (List UInt8)) : lensOf (x :: r) = if (isNum x && r.all (fun y => isNum y && decide (numF y = numF x))) = true then (if 65536 < numF x then (0, 0, 71) else (1, (numF x : Int), 0)) else (0, 0, 60) := by simp only [lensOf]
/-- the elements looked at so far tell the first one's number -/
def goodTo (x : List UInt8) (r : List (List UInt8)) (k : Nat) : Bool := isNum x && (r.take k).all (fun y => isNum y && decide (numF y = numF x))
theorem good_zero (x : List UInt8) (r : List (List UInt8)) : goodTo x r 0 = isNum x := by unfold goodTo; rw [List.take_zero, List.all_nil, Bool.and_true]
theorem good_next (x : List UInt8) (r : List (List UInt8)) (k : Nat) (h : k < r.length) : goodTo x r (k + 1) = (goodTo x r k && (isNum r[k] && decide (numF r[k] = numF x))) := by
  unfold goodTo
  rw [List.take_succ_eq_append_getElem h, List.all_append, List.all_cons, List.all_nil, Bool.and_true, Bool.and_assoc]
theorem good_num {x : List UInt8} {r : List (List UInt8)} {k : Nat} (h : goodTo x r k = true) : isNum x = true := by
  unfold goodTo at h
  rw [Bool.and_eq_true] at h
  exact h.1
theorem good_all (x : List UInt8) (r : List (List UInt8)) (k : Nat) (h : r.length ≤ k) : lensOf (x :: r) = if goodTo x r k = true then (if 65536 < numF x then (0, 0, 71) else (1, (numF x : Int), 0)) else (0, 0, 60) := by
  rw [lens_cons]; unfold goodTo; rw [List.take_of_length_le h]
/-- one round of the comparing, as the program reckons it -/
theorem good_step {p q : Nat} (g a : Bool) (x y : Int) (gx : g = true → x = (p : Int)) (ay : a = true → y = (q : Int)) : (g && a && decide (y = x)) = (g && (a && decide (q = p))) := by
  cases g with
  | false => rfl
  | true =>
    cases a with
    | false => rfl
    | true =>
      rw [gx rfl, ay rfl]
      simp only [Bool.true_and]
      exact decide_eq_decide.2 ⟨fun h => by omega, fun h => by omega⟩
theorem tailS (b off n cap : Nat) (hc : n + 1 ≤ cap) : ∃ ao, (∀ w : World, Sem.run Tryz.prog (Instr.slice 73 (.slice (some ⟨b, off, none⟩) (n + 1) cap) (some (.int .i64 1)) none none) w = .ok (.slice ao n (cap - 1)) w) ∧ (0 < n → ao = some ⟨b, off + 1, none⟩) := by
  have he : Tryz.prog.elem 73 = 9 := by kernel_rfl
  refine ⟨if cap = 1 then some ⟨b, off, none⟩ else some ⟨b, off + 1, none⟩, fun w => ?_, fun hn => if_neg (by omega)⟩
  have h := run_slice_l (P := Tryz.prog) w 73 (some ⟨b, off, none⟩) (n + 1) cap (by rw [he]; exact Tryz.underlying73) .i64 1 (by omega) (by omega)
  rw [he, Tryz.sizeOf9] at h
  simp only [Result.andThen, Int.toNat_one, sliced, Nat.add_sub_cancel, Option.map_some, Addr.add, Nat.mul_one] at h
  exact h
set_option maxRecDepth 20000 in
set_option maxHeartbeats 4000000 in
theorem lensTok (v : Value) (els : List (List UInt8)) (w : World) (hv : Holds w v els) (hcap : ∀ a n c, v = .slice a n c → n ≤ c) (hl : els.length ≤ 1048576) (hx : ∀ x ∈ els, x.length ≤ 1048576) (E : Er w) :
    Calls Tryz.prog 90 #[v] w fun e w' => e = .returned (ansV (lensOf els)) ∧ Below w.heap.size w w' := by
  have b0 := below_alloc' w (.cells #[.int .i64 0, .int .i64 0] 60)
  have D0 := duo_lit w (.int .i64 0) (.int .i64 0) 60
  have E0 := hide' (er_below E b0)
  obtain ⟨ao, ca, b, o, rfl, hc⟩ := holds_parts (holds_mono hv b0)
  have hcp := hcap _ _ _ rfl
  have B0 := hide' b0
  have H0 := hide' D0
  clear hv b0 hcap E
  cases els with
  | nil =>
    clear hc hcp E0 hx hl
    rw [lens_nil]
    have hz : ([] : List (List UInt8)).length = 0 := rfl
    rw [hz]
    obtain ⟨i0, i1, f0, f1, fz⟩ := D0
    go_enter Tryz.func90, Tryz.ntmps90
    go_wp2_with fail
    exact bodyPost_ret (v := ansV (0, 0, 60)) (by simp [results, Tryz.results90, go_sem, ansV]) rfl ⟨rfl, below_alloc' w _⟩
  | cons x r =>
    obtain ⟨rfl, hblt, hcell⟩ := hc (by simp)
    have cx := hcell 0 (by simp)
    simp only [List.getElem_cons_zero, Nat.add_zero, S] at cx
    have CR : Hid (∀ j (h : j < r.length), (w.alloc (.cells #[.int .i64 0, .int .i64 0] 60)).cell? ⟨b, o + 1 + j, none⟩ = some (S r[j])) := by
      intro j h
      have := hcell (j + 1) (by simpa using h)
      rw [List.getElem_cons_succ] at this
      rw [← this, show o + 1 + j = o + (j + 1) by omega]
    have LX := hide' (hx x (by simp))
    have LR : Hid (∀ j (h : j < r.length), r[j].length ≤ 1048576) := fun j h => hx _ (by simp)
    have GA := hide' (good_all x r)
    have GN := hide' (good_next x r)
    have GX := hide' (fun k (h : goodTo x r k = true) => good_num h)
    have GZ := hide' (good_zero x r)
    obtain ⟨q, eq⟩ : ∃ q, q = lensOf (x :: r) := ⟨_, rfl⟩
    rw [← eq] at GA ⊢
    rw [List.length_cons] at hcp hl ⊢
    obtain ⟨n, en⟩ : ∃ n, n = r.length := ⟨_, rfl⟩
    have N : Hid (r.length = n) := en.symm
    rw [N.out] at hcp hl ⊢
    obtain ⟨ta, ht, hta⟩ := tailS b o n ca hcp
    have TA := hide' hta
    have n1 : (((n + 1 : Nat) : Int) == 0) = false := by simp; omega
    obtain ⟨i0, i1, f0, f1, fz⟩ := D0
    clear hc hcell hx eq en hta
    go_enter Tryz.func90, Tryz.ntmps90
    go_wp2_with fail
    refine (numTok x (by have := LX.out; omega) _ E0.out).mono ?_
    rintro e w1 ⟨x0, rfl, XN, ⟨x00, x01⟩, b1⟩
    have B1 := hide' (bt' B0.out b1)
    have H1 := hide' (duo_below H0.out b1)
    have E1 := hide' (er_below E0.out b1)
    have CR1 : Hid (∀ j (h : j < r.length), w1.cell? ⟨b, o + 1 + j, none⟩ = some (S r[j])) := fun j h => by rw [b1.cell (p := ⟨b, o + 1 + j, none⟩) hblt]; exact CR.out j h
    have hblt1 : b < w1.heap.size := Nat.lt_of_lt_of_le hblt b1.size
    clear b1 cx i0 i1 f0 f1 fz CR hblt
    go_wp2_with fail
    go_loopw [5, 24] (fun gv i wr => ∃ (k : Nat) (g : Bool), k ≤ n ∧ i = .int .i64 k ∧ gv = .bool g ∧ Hid (g = goodTo x r k) ∧ Hid (Below w1.heap.size w1 wr)) (fun _ i _ => n - (intOf i).toNat)
    case atStart => exact ⟨0, isNum x, Nat.zero_le _, rfl, rfl, GZ.out.symm, Below.refl _ _⟩
    case round =>
      obtain ⟨k, g, hk, rfl, rfl, HG, HB⟩ := hrel
      by_cases hlt : k < n
      · have G : Hid (k < r.length) := by unfold Hid; rw [N.out]; exact hlt
        have e1 := TA.out (by omega)
        subst e1
        have ck : wr.cell? ⟨b, o + 1 + k, none⟩ = some (.string ⟨(r[k]'G.out).toArray⟩) := by
          rw [HB.out.cell (p := ⟨b, o + 1 + k, none⟩) hblt1]; exact CR1.out k G.out
        have hk2 := LR.out k G.out
        have HS := hide' (GN.out k G.out)
        rw [← HG.out] at HS
        have cN := hide' (fun W (hE : Er W) => numTok (r[k]'G.out) (by omega) W hE)
        generalize r[k]'G.out = y at ck HS cN hk2
        have hgx := hide' (fun h : g = true => XN.out (GX.out k (HG.out.symm.trans h)))
        clear HG
        go_wp2_with fail
        refine (cN.out _ (er_below E1.out HB.out)).mono ?_
        rintro e w2 ⟨y0, rfl, YN, ⟨y00, y01⟩, b2⟩
        have HB2 := hide' (bt' HB.out b2)
        have ST := hide' (good_step g (isNum y) x0 y0 hgx.out YN.out)
        rw [← HS.out] at ST
        generalize isNum y = a at ST
        clear b2 ck HS cN HB YN hgx
        cases g with
        | false =>
          go_wp2_with fail
          go_roundw
          case rel => exact ⟨k + 1, false, by omega, by go_num, rfl, ST.out, HB2⟩
          case measure => simp [intOf]; omega
        | true =>
          cases a with
          | false =>
            go_wp2_with fail
            go_roundw
            case rel => exact ⟨k + 1, false, by omega, by go_num, rfl, ST.out, HB2⟩
            case measure => simp [intOf]; omega
          | true =>
            by_cases hyx : y0 = x0
            · subst hyx
              go_wp2_with fail
              go_roundw
              case rel => exact ⟨k + 1, true, by omega, by go_num, rfl, by unfold Hid; rw [← ST.out]; simp, HB2⟩
              case measure => simp [intOf]; omega
            · have hyx1 : (y0 == x0) = false := by simpa using hyx
              have hyx2 := hide' hyx
              clear hyx
              go_wp2_with fail
              go_roundw
              case rel => exact ⟨k + 1, false, by omega, by go_num, rfl, by unfold Hid; rw [← ST.out, decide_eq_false hyx2.out]; rfl, HB2⟩
              case measure => simp [intOf]; omega
      · have RA := hide' (GA.out k (by rw [N.out]; omega))
        rw [← HG.out] at RA
        have hgx := hide' (fun h : g = true => XN.out (GX.out k (HG.out.symm.trans h)))
        have B9 := hide' (bt' B1.out HB.out)
        have H9 := hide' (duo_below H1.out HB.out)
        obtain ⟨i0, i1, f0, f1, fz⟩ := H9.out
        clear HG HB
        cases g with
        | false =>
          rw [if_neg (by decide)] at RA
          go_wp2_with fail
          obtain ⟨q0, q1⟩ := duo_store H9.out (.int .i64 0) (.int .i64 0)
          have qb := put2_below B9.out (Nat.le_refl _) (.int .i64 0) (.int .i64 0)
          unfold put2 at q0 q1 qb
          exact bodyPost_ret (v := ansV (0, 0, 60)) (by simp [results, Tryz.results90, go_sem, q0, q1, ansV]) rfl ⟨by rw [RA.out], qb⟩
        | true =>
          have ex := hgx.out rfl
          rw [if_pos rfl] at RA
          by_cases h6 : 65536 < numF x
          · rw [if_pos h6] at RA
            have x6 : 65536 < x0 := by omega
            clear hgx ex h6
            go_wp2_with fail
            obtain ⟨q0, q1⟩ := duo_store H9.out (.int .i64 0) (.int .i64 0)
            have qb := put2_below B9.out (Nat.le_refl _) (.int .i64 0) (.int .i64 0)
            unfold put2 at q0 q1 qb
            exact bodyPost_ret (v := ansV (0, 0, 71)) (by simp [results, Tryz.results90, go_sem, q0, q1, ansV]) rfl ⟨by rw [RA.out], qb⟩
          · rw [if_neg h6, ← ex] at RA
            have x6 : x0 ≤ 65536 := by omega
            clear hgx ex h6
            go_wp2_with fail
            obtain ⟨q0, q1⟩ := duo_store H9.out (.int .i64 1) (.int .i64 x0)
            have qb := put2_below B9.out (Nat.le_refl _) (.int .i64 1) (.int .i64 x0)
            unfold put2 at q0 q1 qb
            exact bodyPost_ret (v := ansV (1, x0, 0)) (by simp [results, Tryz.results90, go_sem, q0, q1, ansV]) rfl ⟨by rw [RA.out], qb⟩
end Go.Proofs.YtmikgpmnffdnnaaGreatDoor
namespace Go.Proofs.YtmikgpmnffdnnaaGreatDoor
open Go.RowKit
theorem toks_mem (fs : FL) (nm : List UInt8) (hb : bulkF fs ≤ 1048576) : ∀ x ∈ toksOf (valsOf fs nm), x.length ≤ 1048576 := by
  intro x hx
  unfold toksOf at hx
  obtain ⟨y, hy, rfl⟩ := List.mem_map.1 hx
  obtain ⟨z, hz, hy⟩ := List.mem_flatMap.1 hy
  have h1 := listOf_mem z y hy
  have h2 := bulkT_mem (valsOf fs nm) z hz
  have h3 := bulk_vals fs nm
  have h4 : (lows y).length = y.length := by simp [lows]
  omega
theorem own_cap {w0 w : World} {v : Value} {ss : List (List UInt8)} (h : OwnS w0 v ss w) : ∀ a n c, v = .slice a n c → n ≤ c := by
  intro a n c e
  obtain ⟨hl, h1 | ⟨g, cap, cur, hv, hg, hh, hr⟩⟩ := h.1
  · obtain ⟨hv, _⟩ := h1
    rw [hv] at e; cases e; exact Nat.le_refl _
  · rw [hv] at e; cases e; exact hr.1
theorem rule_both {m s : Int} {fs : FL} (h1 : 0 < (valsOf fs TEb).length) (h2 : 0 < (valsOf fs CLb).length) : ruleOf m fs s = (0, 0, 61) := by unfold ruleOf; rw [if_pos ⟨h1, h2⟩]
theorem rule_cod {m s : Int} {fs : FL} (h1 : 0 < (valsOf fs TEb).length) (h2 : ¬ 0 < (valsOf fs CLb).length) : ruleOf m fs s = codOf m (toksOf (valsOf fs TEb)) := by unfold ruleOf; rw [if_neg (fun h => h2 h.2), if_pos h1]
theorem rule_len {m s : Int} {fs : FL} (h1 : ¬ 0 < (valsOf fs TEb).length) (h2 : 0 < (valsOf fs CLb).length) : ruleOf m fs s = lensOf (toksOf (valsOf fs CLb)) := by unfold ruleOf; rw [if_neg (fun h => h1 h.1), if_neg h1, if_pos h2]
theorem rule_none {m s : Int} {fs : FL} (h1 : ¬ 0 < (valsOf fs TEb).length) (h2 : ¬ 0 < (valsOf fs CLb).length) : ruleOf m fs s = (s, 0, 0) := by unfold ruleOf; rw [if_neg (fun h => h1 h.1), if_neg h1, if_neg h2]
set_option maxRecDepth 20000 in
set_option maxHeartbeats 4000000 in
theorem byFieldsTok (m s : Int) (v : Value) (fs : FL) (w : World) (hv : HoldsF w v fs) (hb : bulkF fs ≤ 1048576) (E : Er w) :
    Calls Tryz.prog 55 #[.int .i64 m, v, .int .i64 s] w fun e w' => e = .returned (ansV (ruleOf m fs s)) ∧ Below w.heap.size w w' := by
  have b0 := below_alloc' w (.cells #[.int .i64 0, .int .i64 0] 60)
  have H0 := hide' (duo_lit w (.int .i64 0) (.int .i64 0) 60)
  have E0 := hide' (er_below E b0)
  have B0 := hide' b0
  have c1 := hide' (getTok v fs TEb _ (holdsF_mono hv b0) hb (by decide))
  have c2 := hide' (fun W (h : Below w.heap.size w W) => getTok v fs CLb W (holdsF_mono hv h) hb (by decide))
  have c3 := hide' (fun W (h : Below w.heap.size w W) => tokensTok v fs TEb W (holdsF_mono hv h) hb (by decide))
  have c4 := hide' (fun W (h : Below w.heap.size w W) => tokensTok v fs CLb W (holdsF_mono hv h) hb (by decide))
  have l3 := hide' (toks_le fs TEb hb)
  have l4 := hide' (toks_le fs CLb hb)
  have m4 := hide' (toks_mem fs CLb hb)
  have r1 := hide' (rule_both (m := m) (s := s) (fs := fs))
  have r2 := hide' (rule_cod (m := m) (s := s) (fs := fs))
  have r3 := hide' (rule_len (m := m) (s := s) (fs := fs))
  have r4 := hide' (rule_none (m := m) (s := s) (fs := fs))
  generalize ruleOf m fs s = Q at r1 r2 r3 r4 ⊢
  generalize toksOf (valsOf fs TEb) = ws at c3 l3 r2
  generalize toksOf (valsOf fs CLb) = els at c4 l4 m4 r3
  generalize (joinOf (valsOf fs TEb)).toArray = j1 at c1
  generalize (joinOf (valsOf fs CLb)).toArray = j2 at c2
  generalize (valsOf fs TEb).length = n1 at c1 r1 r2 r3 r4
  generalize (valsOf fs CLb).length = n2 at c2 r1 r2 r3 r4
  obtain ⟨ao, ca, b, o, rfl, _⟩ := holdsF_parts hv
  clear hv b0 E
  go_enter Tryz.func55, Tryz.ntmps55
  go_wp2_with fail
  refine c1.out.mono ?_
  rintro e w1 ⟨rfl, b1⟩
  have B1 := hide' (bt' B0.out b1)
  have H1 := hide' (duo_below H0.out b1)
  have E1 := hide' (er_below E0.out b1)
  clear b1 c1 H0 B0 E0
  go_wp2_with fail
  refine (c2.out _ B1.out).mono ?_
  rintro e w2 ⟨rfl, b2⟩
  have B2 := hide' (bt' B1.out b2)
  have H2 := hide' (duo_below H1.out b2)
  have E2 := hide' (er_below E1.out b2)
  clear b2 c2 H1 B1 E1
  by_cases h1 : 0 < n1
  · have d1 := hide' (decide_eq_true h1)
    rw [d1.out]
    by_cases h2 : 0 < n2
    · have d2 := hide' (decide_eq_true h2)
      rw [d2.out]
      have R := hide' (r1.out h1 h2)
      obtain ⟨i0, i1, f0, f1, fz⟩ := H2.out
      clear h1 h2 c3 c4 r1 r2 r3 r4 l3 l4 m4
      go_wp2_with fail
      obtain ⟨q0, q1⟩ := duo_store H2.out (.int .i64 0) (.int .i64 0)
      have qb := put2_below B2.out (Nat.le_refl _) (.int .i64 0) (.int .i64 0)
      unfold put2 at q0 q1 qb
      exact bodyPost_ret (v := ansV (0, 0, 61)) (by simp [results, Tryz.results55, go_sem, q0, q1, ansV]) rfl ⟨by rw [R.out], qb⟩
    · have d2 := hide' (decide_eq_false h2)
      rw [d2.out]
      have R := hide' (r2.out h1 h2)
      clear h1 h2 c4 r1 r2 r3 r4 l4 m4
      go_wp2_with fail
      refine (c3.out _ B2.out).mono ?_
      rintro e w3 ⟨u, rfl, ho⟩
      have B3 := hide' (bt' B2.out ho.2)
      have H3 := hide' (duo_below H2.out ho.2)
      have cC := codTok m u ws w3 (holds_own ho) l3.out
      obtain ⟨ua, uc, ub, uo, hu, _⟩ := holds_parts (holds_own ho)
      subst hu
      rw [← R.out] at cC
      unfold ansV at cC
      have CC := hide' cC
      clear ho cC
      go_wp2_with fail
      refine CC.out.mono ?_
      rintro e w4 ⟨rfl, b4⟩
      have B4 := hide' (bt' B3.out b4)
      have H4 := hide' (duo_below H3.out b4)
      obtain ⟨i0, i1, f0, f1, fz⟩ := H4.out
      clear b4
      go_wp2_with fail
      obtain ⟨q0, q1⟩ := duo_store H4.out (.int .i64 Q.1) (.int .i64 Q.2.1)
      have qb := put2_below B4.out (Nat.le_refl _) (.int .i64 Q.1) (.int .i64 Q.2.1)
      unfold put2 at q0 q1 qb
      exact bodyPost_ret (v := ansV Q) (by simp [results, Tryz.results55, go_sem, q0, q1, ansV]) rfl ⟨rfl, qb⟩
  · have d1 := hide' (decide_eq_false h1)
    rw [d1.out]
    by_cases h2 : 0 < n2
    · have d2 := hide' (decide_eq_true h2)
      rw [d2.out]
      have R := hide' (r3.out h1 h2)
      clear h1 h2 c3 r1 r2 r3 r4 l3
      go_wp2_with fail
      refine (c4.out _ B2.out).mono ?_
      rintro e w3 ⟨u, rfl, ho⟩
      have B3 := hide' (bt' B2.out ho.2)
      have H3 := hide' (duo_below H2.out ho.2)
      have cC := lensTok u els w3 (holds_own ho) (own_cap ho) l4.out m4.out (er_below E2.out ho.2)
      obtain ⟨ua, uc, ub, uo, hu, _⟩ := holds_parts (holds_own ho)
      subst hu
      rw [← R.out] at cC
      unfold ansV at cC
      have CC := hide' cC
      clear ho cC
      go_wp2_with fail
      refine CC.out.mono ?_
      rintro e w4 ⟨rfl, b4⟩
      have B4 := hide' (bt' B3.out b4)
      have H4 := hide' (duo_below H3.out b4)
      obtain ⟨i0, i1, f0, f1, fz⟩ := H4.out
      clear b4
      go_wp2_with fail
      obtain ⟨q0, q1⟩ := duo_store H4.out (.int .i64 Q.1) (.int .i64 Q.2.1)
      have qb := put2_below B4.out (Nat.le_refl _) (.int .i64 Q.1) (.int .i64 Q.2.1)
      unfold put2 at q0 q1 qb
      exact bodyPost_ret (v := ansV Q) (by simp [results, Tryz.results55, go_sem, q0, q1, ansV]) rfl ⟨rfl, qb⟩
    · have d2 := hide' (decide_eq_false h2)
      rw [d2.out]
      have R := hide' (r4.out h1 h2)
      obtain ⟨i0, i1, f0, f1, fz⟩ := H2.out
      clear h1 h2 c3 c4 r1 r2 r3 r4 l3 l4 m4
      go_wp2_with fail
      obtain ⟨q0, q1⟩ := duo_store H2.out (.int .i64 s) (.int .i64 0)
      have qb := put2_below B2.out (Nat.le_refl _) (.int .i64 s) (.int .i64 0)
      unfold put2 at q0 q1 qb
      exact bodyPost_ret (v := ansV (s, 0, 0)) (by simp [results, Tryz.results55, go_sem, q0, q1, ansV]) rfl ⟨by rw [R.out], qb⟩
set_option maxRecDepth 20000 in
set_option maxHeartbeats 2000000 in
theorem ofReqTok (mt tg : List UInt8) (k : Int) (fs : FL) (lv : Value) (w : World) (hv : HoldsF w lv fs) (hb : bulkF fs ≤ 1048576) (E : Er w) :
    Calls Tryz.prog 31 #[.agg #[.string ⟨mt.toArray⟩, .string ⟨tg.toArray⟩, .int .i64 k, lv]] w fun e w' => e = .returned (ansV (ruleOf k fs 0)) ∧ Below w.heap.size w w' := by
  obtain ⟨ao, ca, b, o, rfl, _⟩ := holdsF_parts hv
  have b1 := below_alloc' w (.cells #[.string ⟨mt.toArray⟩, .string ⟨tg.toArray⟩, .int .i64 k, .slice ao fs.length ca] 27)
  have b2 := below_alloc' (w.alloc (.cells #[.string ⟨mt.toArray⟩, .string ⟨tg.toArray⟩, .int .i64 k, .slice ao fs.length ca] 27)) (.cells #[.int .i64 0, .int .i64 0] 60)
  have D2 := duo_lit (w.alloc (.cells #[.string ⟨mt.toArray⟩, .string ⟨tg.toArray⟩, .int .i64 k, .slice ao fs.length ca] 27)) (.int .i64 0) (.int .i64 0) 60
  have z1 : (w.alloc (.cells #[.string ⟨mt.toArray⟩, .string ⟨tg.toArray⟩, .int .i64 k, .slice ao fs.length ca] 27)).heap.size = w.heap.size + 1 := by simp
  rw [z1] at D2
  have c := byFieldsTok k 0 _ fs _ (holdsF_mono hv (bt' b1 b2)) hb (er_below E (bt' b1 b2))
  generalize ruleOf k fs 0 = Q at c ⊢
  unfold ansV at c
  have C := hide' c
  have B2 := hide' (bt' b1 b2)
  have H2 := hide' D2
  clear hv b1 b2 D2 E z1 c
  generalize fs.length = n at C B2 H2 ⊢
  go_enter Tryz.func31, Tryz.ntmps31
  go_wp2_with fail
  refine C.out.mono ?_
  rintro e w3 ⟨rfl, b3⟩
  have B3 := hide' (bt' B2.out b3)
  have H3 := hide' (duo_below H2.out b3)
  obtain ⟨i0, i1, f0, f1, fz⟩ := H3.out
  clear b3 C
  go_wp2_with fail
  obtain ⟨q0, q1⟩ := duo_store H3.out (.int .i64 Q.1) (.int .i64 Q.2.1)
  have qb := put2_below B3.out (Nat.le_succ _) (.int .i64 Q.1) (.int .i64 Q.2.1)
  unfold put2 at q0 q1 qb
  exact bodyPost_ret (v := ansV Q) (by simp [results, Tryz.results31, go_sem, q0, q1, ansV]) rfl ⟨rfl, qb⟩
end Go.Proofs.YtmikgpmnffdnnaaGreatDoor
namespace Go.Proofs.YtmikgpmnffdnnaaGreatDoor
open Go.RowKit
theorem laid_drop {P : Program} {W : World} : ∀ (k : Nat) {l : List (String × DataW Unit)}, laidMet P l W → laidMet P (l.drop k) W := by
  intro k
  induction k with
  | zero => intro l h; simpa using h
  | succ k ih =>
    intro l h
    cases l with
    | nil => simpa using h
    | cons x r => rw [List.drop_succ_cons]; exact ih h.tail
theorem star_eq : "*" ++ "errors.errorString" = "*errors.errorString" := by decide
theorem star_row (u : TypeId) (h : Tryz.prog.typeName? 3 u = some "*errors.errorString") : u = 200 :=
  typeName_ptr_named (nm := "errors.errorString") (by rw [star_eq]; kernel_rfl) (by kernel_rfl) (by decide) u (by rw [star_eq]; exact h)
theorem sent_of {W : World} {l r : List (String × DataW Unit)} (h : laidMet Tryz.prog l W) {n : String} {g : Nat} {text : List UInt8} (k : Nat) (e : l.drop k = (n, .iface "*errors.errorString" (.ptr (.agg [.lit (.string text)]))) :: r)
    (hg : Tryz.prog.globalNamed n = some g) (ht : (Tryz.prog.globals[g]?).map (·.type) = some 141) : ∃ tp p, W.cell? ⟨g, 0, none⟩ = some (.iface tp p) := by
  have h' := laid_drop k h
  rw [e] at h'
  obtain ⟨a, s, hv, _⟩ := laid_sentinel h' hg ht Tryz.underlying141 star_row Tryz.underlying200 Tryz.underlying202 rfl rfl Tryz.underlying9 (by kernel_rfl) (by kernel_rfl)
  exact ⟨_, _, by simpa using World.var?_cell hg hv 0⟩
end Go.Proofs.YtmikgpmnffdnnaaGreatDoor
