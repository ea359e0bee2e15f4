/- Bytes that are gone through line by line, in plain words; a list of bytes; the library's Cut at a line's end. -/
import Derived.Test.YtbbaajlabpjnlaaDoorFdZ
import Derived.Test.YtbbaajlabpjnlaaDoorShelfC
import Derived.Lib.SlBytesConst
namespace Go.Proofs.YtbbaajlabpjnlaaDoor
open Go.RowKit
def isEnd (c : UInt8) : Bool := decide (c = 13 ∨ c = 10)
/-- the first line, without its end, and what stands behind its end -/
def stepOf : List UInt8 → Option (List UInt8 × List UInt8)
  | [] => none
  | b :: t => if b = 13 then (match t with
      | c :: r => if c = 10 then some ([], r) else none
      | [] => none)
    else if b = 10 then none
    else (stepOf t).map (fun p => (b :: p.1, p.2))
theorem any_take (b : UInt8) (t : List UInt8) (i : Nat) (h : isEnd b = true) (hi : 0 < i) : ((b :: t).take i).any isEnd = true := by
  obtain ⟨j, rfl⟩ : ∃ j, i = j + 1 := ⟨i - 1, by omega⟩
  simp [h]
theorem step_spec : ∀ (bs : List UInt8), (∀ l r, stepOf bs = some (l, r) → Lib.index bs [13, 10] = (l.length : Int) ∧ l.any isEnd = false ∧ bs = l ++ 13 :: 10 :: r) ∧
    (stepOf bs = none → Lib.index bs [13, 10] = -1 ∨ ∃ i : Nat, Lib.index bs [13, 10] = i ∧ (bs.take i).any isEnd = true) := by
  intro bs
  induction bs with
  | nil => exact ⟨fun l r h => by simp [stepOf] at h, fun _ => Or.inl rfl⟩
  | cons b t ih =>
    have hidx : Lib.index (b :: t) [13, 10] = if ([13, 10] : List UInt8).isPrefixOf (b :: t) then 0 else if Lib.index t [13, 10] == -1 then -1 else Lib.index t [13, 10] + 1 := by rw [Lib.index]
    have hge := Lib.index_ge t [13, 10]
    have far : isEnd b = true → ¬ ([13, 10] : List UInt8).isPrefixOf (b :: t) = true → Lib.index (b :: t) [13, 10] = -1 ∨ ∃ i : Nat, Lib.index (b :: t) [13, 10] = i ∧ ((b :: t).take i).any isEnd = true := by
      intro he hp
      rw [hidx, if_neg hp]
      by_cases h1 : Lib.index t [13, 10] = -1
      · left; rw [h1]; rfl
      · right
        rw [if_neg (by simpa using h1)]
        obtain ⟨i, hi⟩ : ∃ i : Nat, Lib.index t [13, 10] = i := ⟨(Lib.index t [13, 10]).toNat, by omega⟩
        exact ⟨i + 1, by rw [hi]; rfl, any_take b t _ he (by omega)⟩
    by_cases h13 : b = 13
    · subst h13
      cases t with
      | nil =>
        refine ⟨fun l r h => by simp [stepOf] at h, fun _ => far (by decide) (by decide)⟩
      | cons c r0 =>
        by_cases h10 : c = 10
        · subst h10
          refine ⟨fun l r h => ?_, fun h => by simp [stepOf] at h⟩
          simp [stepOf] at h
          obtain ⟨rfl, rfl⟩ := h
          exact ⟨by rw [hidx, if_pos (by simp [List.isPrefixOf])]; rfl, rfl, rfl⟩
        · refine ⟨fun l r h => by simp [stepOf, h10] at h, fun _ => far (by decide) ?_⟩
          simp [List.isPrefixOf]
          exact fun e => h10 e.symm
    · by_cases h10 : b = 10
      · subst h10
        refine ⟨fun l r h => by simp [stepOf] at h, fun _ => far (by decide) (by simp [List.isPrefixOf])⟩
      · have hp : ¬ ([13, 10] : List UInt8).isPrefixOf (b :: t) = true := by
          simp [List.isPrefixOf]
          exact fun e => absurd e.symm h13
        have hs : stepOf (b :: t) = (stepOf t).map (fun p => (b :: p.1, p.2)) := by rw [stepOf.eq_def]; simp only; rw [if_neg h13, if_neg h10]
        have hb : isEnd b = false := by unfold isEnd; simp [h13, h10]
        refine ⟨fun l r h => ?_, fun h => ?_⟩
        · rw [hs] at h
          obtain ⟨⟨l', r'⟩, h', e⟩ := Option.map_eq_some_iff.1 h
          simp only [Prod.mk.injEq] at e
          obtain ⟨rfl, rfl⟩ := e
          obtain ⟨i1, i2, i3⟩ := ih.1 l' r' h'
          refine ⟨?_, ?_, ?_⟩
          · rw [hidx, if_neg hp, i1, if_neg (by simp)]; simp
          · simp [hb]; simpa using i2
          · rw [i3]; rfl
        · rw [hs] at h
          have h' : stepOf t = none := by simpa using h
          rcases ih.2 h' with i1 | ⟨i, i1, i2⟩
          · left; rw [hidx, if_neg hp, i1]; rfl
          · right
            refine ⟨i + 1, ?_, ?_⟩
            · rw [hidx, if_neg hp, i1, if_neg (by simp)]; simp
            · simp [i2]
def parseF : Nat → List UInt8 → FL → FL × Int
  | 0, _, acc => (acc, 0)
  | n + 1, bs, acc => if bs = [] then (acc, 0) else match stepOf bs with
    | none => ([], 40)
    | some p => if (lineOf p.1).2 ≠ 0 then ([], (lineOf p.1).2) else if 100 ≤ acc.length then ([], 42) else parseF n p.2 (acc ++ [(lineOf p.1).1])
theorem step_len {bs l r : List UInt8} (h : stepOf bs = some (l, r)) : bs.length = l.length + r.length + 2 := by
  have := ((step_spec bs).1 l r h).2.2
  rw [this]; simp; omega
theorem parse_fuel : ∀ (n m : Nat) (bs : List UInt8) (acc : FL), bs.length < n → bs.length < m → parseF n bs acc = parseF m bs acc := by
  intro n
  induction n with
  | zero => intro m bs acc h; omega
  | succ n ih =>
    intro m bs acc h hm
    obtain ⟨m, rfl⟩ : ∃ k, m = k + 1 := ⟨m - 1, by omega⟩
    unfold parseF
    by_cases h0 : bs = []
    · rw [if_pos h0, if_pos h0]
    · rw [if_neg h0, if_neg h0]
      cases hs : stepOf bs with
      | none => rfl
      | some p =>
        obtain ⟨l, r⟩ := p
        have hl := step_len hs
        simp only
        split
        · rfl
        · split
          · rfl
          · exact ih m r _ (by omega) (by omega)
def parseG (bs : List UInt8) (acc : FL) : FL × Int := parseF (bs.length + 1) bs acc
def parseOf (bs : List UInt8) : FL × Int := parseG bs []
theorem parse_nil (acc : FL) : parseG [] acc = (acc, 0) := by unfold parseG parseF; rw [if_pos rfl]
theorem parse_none (bs : List UInt8) (acc : FL) (h0 : bs ≠ []) (hs : stepOf bs = none) : parseG bs acc = ([], 40) := by unfold parseG parseF; rw [if_neg h0, hs]
theorem parse_bad (bs l r : List UInt8) (acc : FL) (hs : stepOf bs = some (l, r)) (hl : (lineOf l).2 ≠ 0) : parseG bs acc = ([], (lineOf l).2) := by
  have h0 : bs ≠ [] := by intro e; rw [e] at hs; simp [stepOf] at hs
  unfold parseG parseF; rw [if_neg h0, hs]; simp only; rw [if_pos hl]
theorem parse_many (bs l r : List UInt8) (acc : FL) (hs : stepOf bs = some (l, r)) (hl : (lineOf l).2 = 0) (ha : 100 ≤ acc.length) : parseG bs acc = ([], 42) := by
  have h0 : bs ≠ [] := by intro e; rw [e] at hs; simp [stepOf] at hs
  unfold parseG parseF; rw [if_neg h0, hs]; simp only; rw [if_neg (by rw [hl]; simp), if_pos ha]
theorem parse_next (bs l r : List UInt8) (acc : FL) (hs : stepOf bs = some (l, r)) (hl : (lineOf l).2 = 0) (ha : ¬ 100 ≤ acc.length) : parseG bs acc = parseG r (acc ++ [(lineOf l).1]) := by
  have h0 : bs ≠ [] := by intro e; rw [e] at hs; simp [stepOf] at hs
  have hlen := step_len hs
  unfold parseG
  rw [parseF, if_neg h0, hs]; simp only; rw [if_neg (by rw [hl]; simp), if_neg ha]
  exact parse_fuel _ _ _ _ (by omega) (by omega)
/-- v is a slice whose elements are the bytes bs -/
def HoldsB (w : World) (v : Value) (bs : List UInt8) : Prop :=
  ∃ ao cap, v = .slice ao bs.length cap ∧ (ao = none → cap = 0) ∧ bs.length ≤ cap ∧ (bs ≠ [] → ∃ b off, ao = some ⟨b, off, none⟩ ∧ b < w.heap.size ∧ ∀ j (h : j < bs.length), w.cell? ⟨b, off + j, none⟩ = some (B bs[j]))
theorem holdsB_own {w0 w : World} {v : Value} {bs : List UInt8} (h : Own w0 v bs w) : HoldsB w v bs := by
  obtain ⟨hl, h1 | ⟨g, cap, cur, rfl, hg, hh, hr⟩⟩ := h.1
  · obtain ⟨rfl, hn⟩ := h1
    obtain rfl : bs = [] := List.eq_nil_of_length_eq_zero hn
    exact ⟨none, 0, rfl, fun _ => rfl, Nat.le_refl _, fun h => absurd rfl h⟩
  · refine ⟨_, cap, rfl, fun e => (by cases e), hr.1, fun _ => ⟨g, 0, rfl, (h.1.lt g rfl).2, fun j hj => ?_⟩⟩
    rw [Nat.zero_add, h.1.cellAt j (by omega)]
    simp [hj]
theorem holdsB_mono {w w' : World} {v : Value} {bs : List UInt8} (h : HoldsB w v bs) (hb : Below w.heap.size w w') : HoldsB w' v bs := by
  obtain ⟨ao, cap, rfl, h0, hcp, hc⟩ := h
  refine ⟨ao, cap, rfl, h0, hcp, fun hne => ?_⟩
  obtain ⟨b, off, rfl, hlt, hcell⟩ := hc hne
  have := hb.size
  exact ⟨b, off, rfl, by omega, fun j hj => by rw [hb.cell (p := ⟨b, off + j, none⟩) hlt]; exact hcell j hj⟩
theorem in_of_holdsB {w : World} {ao : Option Addr} {cap : Nat} {bs : List UInt8} (h : HoldsB w (.slice ao bs.length cap) bs) : Lib.BytesIn w ao bs.length (bs.map fun b => (b.toNat : Int)) := by
  intro hn
  obtain ⟨ao', cap', e, _, _, hc⟩ := h
  simp only [Value.slice.injEq] at e
  obtain ⟨rfl, _, rfl⟩ := e
  obtain ⟨b, off, rfl, _, hcell⟩ := hc (fun e => by rw [e] at hn; simp at hn)
  refine ⟨b, off, rfl, fun i hi => ?_⟩
  rw [hcell i hi]
  simp [B, List.getD, hi]
theorem bytesOf_map' (l : List UInt8) : Lib.bytesOf (l.map fun b => (b.toNat : Int)) = l := by
  unfold Lib.bytesOf
  rw [List.map_map]
  conv => rhs; rw [← List.map_id l]
  exact List.map_congr_left (fun b _ => by simp)
theorem byte_range (l : List UInt8) : ∀ x ∈ l.map (fun b => (b.toNat : Int)), 0 ≤ x ∧ x < 256 := by
  intro x hx
  obtain ⟨b, _, rfl⟩ := List.mem_map.1 hx
  have := b.toNat_lt
  omega
theorem holdsB_pre {w : World} {ao : Option Addr} {cap : Nat} {bs : List UInt8} (h : HoldsB w (.slice ao bs.length cap) bs) (i : Nat) (hi : i ≤ bs.length) : HoldsB w (.slice ao i cap) (bs.take i) := by
  obtain ⟨ao', cap', e, h0, hcp, hc⟩ := h
  simp only [Value.slice.injEq] at e
  obtain ⟨rfl, _, rfl⟩ := e
  have hl : (bs.take i).length = i := by rw [List.length_take]; omega
  refine ⟨ao, cap, by rw [hl], h0, by omega, fun hne => ?_⟩
  obtain ⟨b, off, rfl, hlt, hcell⟩ := hc (fun e => hne (by rw [e]; simp))
  exact ⟨b, off, rfl, hlt, fun j hj => by rw [hcell j (by omega)]; simp⟩
theorem holdsB_suf {w : World} {ao : Option Addr} {cap : Nat} {bs : List UInt8} (h : HoldsB w (.slice ao bs.length cap) bs) (i : Nat) (hi : i ≤ bs.length) : HoldsB w (Lib.fromV ao bs.length cap i) (bs.drop i) := by
  obtain ⟨ao', cap', e, h0, hcp, hc⟩ := h
  simp only [Value.slice.injEq] at e
  obtain ⟨rfl, _, rfl⟩ := e
  have hl : (bs.drop i).length = bs.length - i := by rw [List.length_drop]
  refine ⟨_, cap - i, by unfold Lib.fromV; rw [hl], ?_, by omega, fun hne => ?_⟩
  · intro e
    split at e
    · omega
    · cases ao with
      | none => have := h0 rfl; omega
      | some a => simp at e
  · have hp : i < bs.length := by
      rcases Nat.lt_or_ge i bs.length with h | h
      · exact h
      · exact absurd (List.drop_eq_nil_of_le h) hne
    obtain ⟨b, off, rfl, hlt, hcell⟩ := hc (fun e => by rw [e] at hp; simp at hp)
    refine ⟨b, off + i, ?_, hlt, fun j hj => ?_⟩
    · rw [if_neg (by omega)]
      simp [Addr.add]
    · have := hcell (i + j) (by omega)
      rw [Nat.add_assoc, this]
      simp
theorem mark2 (W : World) : Sem.run Tryd.prog (convert 22 22 (.slice (some ⟨W.heap.size, 0, none⟩) 2 2)) (W.alloc (.cells #[.int .u8 13, .int .u8 10] 5)) = .ok (.slice (some ⟨W.heap.size, 0, none⟩) 2 2) (W.alloc (.cells #[.int .u8 13, .int .u8 10] 5 (2, 3))) :=
  Lib.run_convert_bytes_const W 22 5 #[.int .u8 13, .int .u8 10] 2 2 Tryd.underlying22 Tryd.underlying5
theorem cutB (ao : Option Addr) (cap : Nat) (bs : List UInt8) (W : World) (hv : HoldsB W (.slice ao bs.length cap) bs) (M : MaxV W) (hs : bs.length < 4294967281) :
    Calls Tryd.prog 29 #[.slice ao bs.length cap, .slice (some ⟨W.heap.size, 0, none⟩) 2 2] (W.alloc (.cells #[.int .u8 13, .int .u8 10] 5 (2, 3))) fun e w' => e = .returned (Lib.cutV ao bs.length cap 2 (Lib.index bs [13, 10])) ∧ Below W.heap.size W w' := by
  have bA := below_alloc' W (.cells #[.int .u8 13, .int .u8 10] 5 (2, 3))
  obtain ⟨m, hm⟩ := maxV_below M bA
  have h1 := in_of_holdsB (holdsB_mono hv bA)
  obtain ⟨ao', cap', e, h0, hcp, _⟩ := hv
  simp only [Value.slice.injEq] at e
  obtain ⟨rfl, _, rfl⟩ := e
  have c := Any.bytes_Cut_all Tryd.laysT4 ao (some ⟨W.heap.size, 0, none⟩) bs.length cap 2 2 (bs.map fun b => (b.toNat : Int)) [13, 10] m _ (by simp) rfl (byte_range bs) (by decide) h1 (fun _ => ⟨W.heap.size, 0, rfl, fun i hi => by
    match i, hi with
    | 0, _ => simp [World.cell?_alloc_mark]
    | 1, _ => simp [World.cell?_alloc_mark]⟩) h0 hcp hs (by decide) hm
  refine c.mono ?_
  rintro e w' ⟨rfl, q, rfl⟩
  rw [bytesOf_map', show Lib.bytesOf [13, 10] = [13, 10] from rfl]
  exact ⟨rfl, bt' bA (below_drewN _ q)⟩
end Go.Proofs.YtbbaajlabpjnlaaDoor
