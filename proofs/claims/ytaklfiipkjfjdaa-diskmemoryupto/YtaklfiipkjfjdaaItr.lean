/- The library's maps.Keys and slices.Sorted at a table of names; the contract of rising: the names of a table in their order. -/
import Derived.Test.YtaklfiipkjfjdaaDkD
import Derived.Test.YtaklfiipkjfjdaaShelfK
namespace Go.Proofs.Ytaklfiipkjfjdaa
open Go.RowKit Go.Maps Go.Sort Go.Shelf
theorem sortsK (m : Nat) : AnyZ.SortsIn Try.prog Try.ssorted_ren Fence.wide m :=
  ⟨fun blk off cap ss W hH hblk hsz => callsIn_wide.2 (AnyM.slices_Sort_string Try.ssort blk off cap ss W hH hblk hsz),
   fun p cap W => callsIn_wide.2 (AnyM.slices_Sort_string_none Try.ssort p cap W)⟩
theorem keysK (mb : Option Nat) (W : World) : Calls Try.prog 56 #[.map mb] W fun e w' => e = .returned (.func (.func 62) #[] #[.pointer (some ⟨W.heap.size, 0, none⟩)]) ∧ w' = W.alloc (.cells #[.map mb] 67) :=
  (callsIn_wide (n := 5)).1 (AnyZ.keys_in Try.mkeys Fence.wide 5 trivial rfl mb W)
set_option maxHeartbeats 1000000 in
theorem sortedK {H : Type} (b nn : Nat) (D0 : DataW H) (R : Value → Option (DataW H × List MemPlace)) (w : World) (hown : w.ownsMap Try.prog 9 R b nn D0) (hmax : Maps.size D0 ≤ maxLen) (hbytes : Maps.size D0 * 16 ≤ 140737488355328) :
    Calls Try.prog 55 #[.func (.func 62) #[] #[.pointer (some ⟨w.heap.size, 0, none⟩)]] (w.alloc (.cells #[.map (some b)] 67)) fun e w' => ∃ (v : Value) (ss : List (List UInt8)), e = .returned v ∧ ss.Perm (strKeys D0) ∧
      w'.ownsRow (w.alloc (.cells #[.map (some b)] 67)).heap.size 9 1 v ss.length ((ss.mergeSort (fun x y => decide (x ≤ y))).map encStr) ∧ (v = .slice none 0 0 ↔ ss = []) ∧ Below (w.alloc (.cells #[.map (some b)] 67)).heap.size (w.alloc (.cells #[.map (some b)] 67)) w' := by
  have hbl := hown.lt
  have hseq : SeqGives Fence.wide 2 Try.prog 62 #[.pointer (some ⟨w.heap.size, 0, none⟩)] encStr (fun ss => ss.Perm (strKeys D0)) (Maps.size D0) (w.alloc (.cells #[.map (some b)] 67)) :=
    AnyZ.keys_gives (ρ := Try.mkeys_ren) { Try.mkeys with } Fence.wide _ trivial rfl (by omega) w.heap.size b nn D0 _ (by simp) (by simp) (by
      obtain ⟨es, clock, hb, Ft, hs, hD⟩ := hown
      exact ⟨es, clock, (Below.heap_alloc _ _ b hbl).trans hb, Ft, hs, hD⟩)
  exact (callsIn_wide (n := 5)).1 (AnyZ.sorted_in Try.ssorted Fence.wide 5 trivial trivial trivial trivial rfl (by omega) (sortsK _) (enters_of Try.func61 (by kernel_rfl) rfl) 62 #[.pointer (some ⟨w.heap.size, 0, none⟩)] trivial (enters_of Try.func62 (by kernel_rfl) rfl) _ _ hmax hbytes _ hseq)
theorem encStr_S (l : List UInt8) : encStr l = S l := rfl
set_option maxHeartbeats 1000000 in
theorem risingC {W : World} {m : Nat} {fb : Nat → Nat} {l : NL} (h : Tbl W m fb l) (hs : SortedN l) (hl : l.length ≤ 1000000000) :
    Calls Try.prog 43 #[.map (some m)] W fun e w' => ∃ v, e = .returned v ∧ OwnS W v (l.map (fun p => p.1)) w' := by
  have C1 := hide' (keysK (some m) W)
  have C2 := hide' (sortedK m l.length (dOf fb l) pel W h (by rw [dOf_size]; unfold maxLen; omega) (by rw [dOf_size]; omega))
  clear h
  go_enter Try.func43, Try.ntmps43
  go_wp2_with (first
    | (go_at_call 56; refine C1.out.mono ?_; rintro e w' ⟨rfl, rfl⟩)
    | (go_at_call 55; refine C2.out.mono ?_; rintro e w' ⟨v, ss, rfl, h1, h2, h3, h4⟩; have H1 := hide' h1; have H2 := hide' h2; have H4 := hide' h4; clear h1 h2 h3 h4))
  go_ret
  have hp := H1.out
  rw [dOf_keys] at hp
  have e := sorted_keys hs hp
  have h2 := H2.out
  rw [e] at h2
  have hlen : ss.length = (l.map (fun p => p.1)).length := hp.length_eq
  rw [hlen] at h2
  refine ⟨v, rfl, row_base h2 (by simp), ?_⟩
  exact (below_alloc' W _).trans (H4.out.mono (by simp))
end Go.Proofs.Ytaklfiipkjfjdaa
