/- What the contract of normalPath leans on: rows of texts, and the library's TrimPrefix, Split and Join at a stroke. -/
import Derived.Test.YtaijnphodjdedaaDoorUaT
import Derived.Test.YtaijnphodjdedaaDoorOwnS
import Derived.Test.YtaijnphodjdedaaDoorShelf
import Derived.Test.YtaijnphodjdedaaDoorShelfB
import Derived.Lib.SplitLaws
namespace Go.Proofs.YtaijnphodjdedaaDoor
open Go.RowKit
theorem Tryd.Builder_Extra_156 : Builder.Extra Tryd.prog Tryd.lays156_ren where
  sizeBuilder := by kernel_rfl
  liesBuilder := by kernel_rfl
  t5 := Tryd.underlying5
  a5 := Tryd.isAgg5
  z5 := Tryd.sizeOf5
  v5 := Tryd.zeroValue5
  infoByte := by kernel_rfl
  cellsByte := by kernel_rfl
  sizeByte := by kernel_rfl
  neB5 := by decide
theorem ne_list {a b : ByteArray} (h : ¬ a = b) : (a.toList == b.toList) = false := by
  simp only [beq_eq_false_iff_ne, ne_eq]
  intro e
  apply h
  rw [ByteArray.toList_eq, ByteArray.toList_eq] at e
  exact ba_ext e
theorem ne_lit {a : ByteArray} {l : List UInt8} (h : ¬ a = ⟨l.toArray⟩) : (a.toList == l) = false := by
  simp only [beq_eq_false_iff_ne, ne_eq]
  intro e
  apply h
  rw [ByteArray.toList_eq] at e
  exact ba_ext (by rw [e])
theorem shut_len_aux : ∀ (ps st : List (List UInt8)), (shut (ps.foldl step st)).length ≤ (shut st).length + (shut ps).length
  | [], st => by simp [shut]
  | q :: qs, st => by
    rw [List.foldl_cons]
    have h := shut_len_aux qs (step st q)
    have h2 : (shut (step st q)).length ≤ (shut st).length + (shut [q]).length := by
      unfold step
      split
      · omega
      · split
        · rcases List.eq_nil_or_concat st with e | ⟨x, y, e⟩
          · subst e; simp
          · subst e; rw [List.concat_eq_append, List.dropLast_concat, shut_snoc]; simp; omega
        · rw [shut_snoc]; simp [shut]
    have h3 : (shut (q :: qs)).length = (shut [q]).length + (shut qs).length := by simp [shut]; omega
    omega
theorem shut_pieces (l : List UInt8) : shut (pieces l) = 47 :: l := by
  induction l with
  | nil => rfl
  | cons c l ih =>
    cases hp : pieces l with
    | nil => exact absurd hp (pieces_ne l)
    | cons q qs =>
      rw [hp, shut_cons] at ih
      simp only [List.cons.injEq, true_and] at ih
      by_cases e : c = 47
      · subst e; rw [pieces, if_pos rfl, hp, shut_cons, shut_cons, ih]; rfl
      · rw [pieces_plain c l e q qs hp, shut_cons, List.cons_append, ih]
theorem kept_len (l : List UInt8) : (shut (kept (pieces l))).length ≤ l.length + 2 := by
  unfold kept
  have h := shut_len_aux (pieces l) []
  rw [shut_pieces] at h
  have h2 : (shut ([] : List (List UInt8))).length = 0 := rfl
  have h3 : left (pieces l) = (pieces l).foldl step [] := rfl
  rw [← h3] at h
  simp only [List.length_cons] at h
  split
  · rw [shut_snoc]; simp; omega
  · rw [List.append_nil]; omega
theorem left_len : ∀ (ps st : List (List UInt8)), (ps.foldl step st).length ≤ st.length + ps.length
  | [], st => by simp
  | q :: qs, st => by
    rw [List.foldl_cons]
    have h := left_len qs (step st q)
    have h2 : (step st q).length ≤ st.length + 1 := by
      unfold step
      split
      · omega
      · split
        · simp; omega
        · simp
    simp only [List.length_cons]; omega
/-- an owned row of texts, its last text left out -/
theorem ownS_drop {w0 w : World} {g n cap : Nat} {ss : List (List UInt8)} (h : OwnS w0 (.slice (some ⟨g, 0, none⟩) n cap) ss w) (hn : ss.length = n) (hp : 0 < n) : OwnS w0 (.slice (some ⟨g, 0, none⟩) (n - 1) cap) ss.dropLast w := by
  subst hn
  obtain ⟨hl, h1 | ⟨g', cap', cur, e, hg, hh, hc1, hc2, hc3, hc4⟩⟩ := h.1
  · simp at h1
  · simp only [Value.slice.injEq, Option.some.injEq, Addr.mk.injEq] at e
    obtain ⟨⟨rfl, _⟩, _, rfl⟩ := e
    refine ⟨⟨by simp, .inr ⟨g, cap, cur, by simp, hg, hh, by simp; omega, hc2, hc3, ?_⟩⟩, h.2⟩
    rw [List.map_dropLast, ← hc4, List.dropLast_eq_take (l := List.take (ss.length * 1) cur.toList), List.take_take, List.length_take, List.length_dropLast]
    have h5 : cur.toList.length = cap := by simpa using hc3
    congr 1
    rw [h5]
    omega
/-- the segments of a path, as the library's Split tells them -/
def segsB (x : ByteArray) : List ByteArray := Lib.splitB ⟨#[47]⟩ 0 (Lib.countB x ⟨#[47]⟩) x
theorem segsB_list (x : ByteArray) : (segsB x).map (·.data.toList) = pieces x.data.toList := split_list x
theorem segsB_len (x : ByteArray) : (segsB x).length = Lib.countB x ⟨#[47]⟩ + 1 := Lib.splitB_all ⟨#[47]⟩ (by decide) 0 _ x rfl
theorem splitCode (x : ByteArray) (hx : x.size ≤ 4096) (w : World) (M : MaxV w) :
    Calls Tryd.prog 42 #[.string x, .string ⟨#[47]⟩] w fun e w' => e = .returned (.slice (some ⟨w.heap.size, 0, none⟩) (segsB x).length (segsB x).length) ∧ w' = w.alloc (.cells ((segsB x).map Value.string).toArray 9) := by
  obtain ⟨m, hm⟩ := M
  have c := Any.strings_Split Tryd.lays146 (by kernel_rfl) x ⟨#[47]⟩ m w (by omega) hm (by decide)
  rw [segsB_len]
  exact c
theorem trimCode (s : ByteArray) (hd : ∀ c l, s.data.toList = c :: l → c = 47) (w : World) :
    Calls Tryd.prog 43 #[.string s, .string ⟨#[47]⟩] w fun e w' => e = .returned (.string ⟨(s.data.toList.drop 1).toArray⟩) ∧ w' = w := by
  have c := Any.strings_TrimPrefix Tryd.lays101 s ⟨#[47]⟩ w
  have e : Lib.trimPrefix s.data.toList (⟨#[47]⟩ : ByteArray).data.toList = s.data.toList.drop 1 := by
    unfold Lib.trimPrefix Lib.hasPrefix
    cases h : s.data.toList with
    | nil => rfl
    | cons c l =>
      rw [hd c l h, show (⟨#[47]⟩ : ByteArray).data.toList = [47] from rfl, if_pos (by simp [List.isPrefixOf])]
      rfl
  rw [e] at c
  exact c
theorem take_snocS (bs : List ByteArray) (k : Nat) (h : k < bs.length) : (bs.map (·.data.toList)).take (k + 1) = (bs.map (·.data.toList)).take k ++ [bs[k].data.toList] := by
  rw [List.take_succ_eq_append_getElem (by simpa using h)]; simp
/-- a row of texts that lies in a block -/
theorem cell_row (w : World) (bs : List ByteArray) (k : Nat) (h : k < bs.length) : (w.alloc (.cells (bs.map Value.string).toArray 9)).cell? ⟨w.heap.size, k, none⟩ = some (.string bs[k]) := by
  simp [h]
theorem len_shut (qs : List (List UInt8)) : qs.length ≤ (shut qs).length := by
  induction qs with
  | nil => simp
  | cons q qs ih => rw [shut_cons]; simp; omega
theorem joinCode (w1 wr : World) (F : List (List UInt8)) (g cap : Nat) (hown : OwnS w1 (.slice (some ⟨g, 0, none⟩) F.length cap) F wr) (hne : F ≠ []) (hlen : (shut F).length ≤ 4098) :
    ∃ J : ByteArray, (⟨#[47]⟩ : ByteArray) ++ J = ⟨(shut F).toArray⟩ ∧ J.size ≤ 4098 ∧ Calls Tryd.prog 44 #[.slice (some ⟨g, 0, none⟩) F.length cap, .string ⟨#[47]⟩] wr fun e w' => e = .returned (.string J) ∧ Below wr.heap.size wr w' := by
  have hj := shut_join F hne
  have hF := len_shut F
  have em : (F.map (fun l => (⟨l.toArray⟩ : ByteArray))).map (·.data.toList) = F := by
    rw [List.map_map]
    conv => rhs; rw [← List.map_id F]
    exact List.map_congr_left (fun l _ => by simp)
  have hl2 : (Lib.join F [47]).length + 1 ≤ 4098 := by rw [hj] at hlen; simpa using hlen
  refine ⟨⟨(Lib.join F [47]).toArray⟩, ?_, by rw [mk_size]; omega, ?_⟩
  · apply ba_ext
    rw [show ((⟨#[47]⟩ : ByteArray) ++ ⟨(Lib.join F [47]).toArray⟩).data.toList = 47 :: Lib.join F [47] by simp [ByteArray.data_append], hj]
  · have hlt := hown.1.lt g rfl
    have hcap : F.length ≤ cap := by
      obtain ⟨_, h1 | ⟨g', cap', cur, e, _, _, hc, _⟩⟩ := hown.1
      · simp at h1
      · simp only [Value.slice.injEq] at e
        obtain ⟨_, _, rfl⟩ := e
        exact hc
    have c := Any.strings_Join Tryd.lays156 Tryd.Builder_Extra_156 g 0 cap (F.map (fun l => (⟨l.toArray⟩ : ByteArray))) ⟨#[47]⟩ wr (by
      intro j x hx
      have h2 : j < F.length := by
        have := (List.getElem?_eq_some_iff.1 hx).1
        simpa using this
      rw [Nat.zero_add, hown.1.cellAt j (by omega)]
      rw [List.getElem?_map, List.getElem?_eq_getElem h2] at hx ⊢
      simp only [Option.map_some, Option.some.injEq] at hx ⊢
      rw [← hx]; rfl) hlt.2 (by rw [List.length_map]; omega) (by rw [List.length_map]; exact hcap) (by rw [em]; show (Lib.join F [47]).length ≤ _; omega)
    rw [em, List.length_map] at c
    exact c
end Go.Proofs.YtaijnphodjdedaaDoor
