/- The library's maps.Keys and slices.Sorted at a table of names; the contract of rising: the names of a table in their order. The contract of List. -/
import Derived.Test.YtijnjgnckipghaaGreatBw1
import Derived.Test.YtijnjgnckipghaaGreatShelfK
import Derived.Test.YtijnjgnckipghaaGreatBw12
import Derived.Laws.OwnMore
namespace Go.Proofs.YtijnjgnckipghaaGreat
open Go.RowKit Go.Maps Go.Sort Go.Shelf
theorem sortsK (m : Nat) : AnyZ.SortsIn Tryz.prog Tryz.ssorted_ren Fence.wide m :=
  ⟨fun blk off cap ss W hH hblk hsz => callsIn_wide.2 (AnyM.slices_Sort_string Tryz.ssort blk off cap ss W hH hblk hsz),
   fun p cap W => callsIn_wide.2 (AnyM.slices_Sort_string_none Tryz.ssort p cap W)⟩
theorem keysK (mb : Option Nat) (W : World) : Calls Tryz.prog 98 #[.map mb] W fun e w' => e = .returned (.func (.func 108) #[] #[.pointer (some ⟨W.heap.size, 0, none⟩)]) ∧ w' = W.alloc (.cells #[.map mb] 104) :=
  (callsIn_wide (n := 5)).1 (AnyZ.keys_in Tryz.mkeys Fence.wide 5 trivial rfl mb W)
set_option maxHeartbeats 1000000 in
theorem sortedK {H : Type} (b nn : Nat) (D0 : DataW H) (R : Value → Option (DataW H × List MemPlace)) (w : World) (hown : w.ownsMap Tryz.prog 9 R b nn D0) (hmax : Maps.size D0 ≤ maxLen) (hbytes : Maps.size D0 * 16 ≤ 140737488355328) :
    Calls Tryz.prog 97 #[.func (.func 108) #[] #[.pointer (some ⟨w.heap.size, 0, none⟩)]] (w.alloc (.cells #[.map (some b)] 104)) fun e w' => ∃ (v : Value) (ss : List (List UInt8)), e = .returned v ∧ ss.Perm (strKeys D0) ∧
      w'.ownsRow (w.alloc (.cells #[.map (some b)] 104)).heap.size 9 1 v ss.length ((ss.mergeSort (fun x y => decide (x ≤ y))).map encStr) ∧ (v = .slice none 0 0 ↔ ss = []) ∧ Below (w.alloc (.cells #[.map (some b)] 104)).heap.size (w.alloc (.cells #[.map (some b)] 104)) w' := by
  have hbl := hown.lt
  have hseq : SeqGives Fence.wide 2 Tryz.prog 108 #[.pointer (some ⟨w.heap.size, 0, none⟩)] encStr (fun ss => ss.Perm (strKeys D0)) (Maps.size D0) (w.alloc (.cells #[.map (some b)] 104)) :=
    AnyZ.keys_gives (ρ := Tryz.mkeys_ren) { Tryz.mkeys with } Fence.wide _ trivial rfl (by omega) w.heap.size b nn D0 _ (by simp) (by simp) (by
      obtain ⟨es, clock, hb, Ft, hs, hD⟩ := hown
      exact ⟨es, clock, (Below.heap_alloc _ _ b hbl).trans hb, Ft, hs, hD⟩)
  exact (callsIn_wide (n := 5)).1 (AnyZ.sorted_in Tryz.ssorted Fence.wide 5 trivial trivial trivial trivial rfl (by omega) (sortsK _) (enters_of Tryz.func107 (by kernel_rfl) rfl) 108 #[.pointer (some ⟨w.heap.size, 0, none⟩)] trivial (enters_of Tryz.func108 (by kernel_rfl) rfl) _ _ hmax hbytes _ hseq)
theorem encStr_S (l : List UInt8) : encStr l = S l := rfl
set_option maxHeartbeats 1000000 in
theorem risingC {W : World} {m : Nat} {fb : Nat → Nat} {l : NL} (h : Tbl W m fb l) (hs : SortedN l) (hl : l.length ≤ 1000000000) :
    Calls Tryz.prog 68 #[.map (some m)] W fun e w' => ∃ v, e = .returned v ∧ OwnS W v (l.map (fun p => p.1)) w' := by
  have C1 := hide' (keysK (some m) W)
  have C2 := hide' (sortedK m l.length (dOf fb l) pel W h (by rw [dOf_size]; unfold maxLen; omega) (by rw [dOf_size]; omega))
  clear h
  go_enter Tryz.func68, Tryz.ntmps68
  go_wp2_with (first
    | (go_at_call 98; refine C1.out.mono ?_; rintro e w' ⟨rfl, rfl⟩)
    | (go_at_call 97; refine C2.out.mono ?_; rintro e w' ⟨v, ss, rfl, h1, h2, h3, h4⟩; have H1 := hide' h1; have H2 := hide' h2; have H4 := hide' h4; clear h1 h2 h3 h4))
  go_ret
  have hp := H1.out
  rw [dOf_keys] at hp
  have e := sorted_keys hs hp
  have h2 := H2.out
  rw [e] at h2
  have hlen : ss.length = (l.map (fun p => p.1)).length := hp.length_eq
  rw [hlen] at h2
  refine ⟨v, rfl, row_base h2 (by simp), ?_⟩
  exact (below_alloc' W _).trans (H4.out.mono (by simp))
end Go.Proofs.YtijnjgnckipghaaGreat
namespace Go.Proofs.YtijnjgnckipghaaGreat
open Go.RowKit Go.Maps
/-- a cell of an own row of texts, written with what it held -/
theorem ownS_again {w0 W : World} {b cap j : Nat} {ss : List (List UInt8)} (h : OwnS w0 (.slice (some ⟨b, 0, none⟩) ss.length cap) ss W) (hj : j < ss.length) : OwnS w0 (.slice (some ⟨b, 0, none⟩) ss.length cap) ss (W.setCell ⟨b, j, none⟩ (S ss[j])) := by
  have h1 := h.1.stored j (S ss[j])
  have e : (ss.map S).set j (S ss[j]) = ss.map S := by
    rw [← List.map_set, List.set_getElem_self]
  rw [e] at h1
  exact ⟨h1.1, h.2.setCell (h.1.lt b rfl).1 _⟩
theorem ownS_slice {w0 W : World} {v : Value} {ss : List (List UInt8)} (h : OwnS w0 v ss W) (hne : 0 < ss.length) : ∃ b cap, v = .slice (some ⟨b, 0, none⟩) ss.length cap ∧ ∀ j (hj : j < ss.length), W.cell? ⟨b, j, none⟩ = some (S ss[j]) ∧ W.frozen? ⟨b, j, none⟩ = false := by
  rcases h.1.2 with ⟨_, e⟩ | ⟨x, cap, cur, hv, hx, hh, hr⟩
  · omega
  · refine ⟨x, cap, hv, fun j hj => ⟨?_, ?_⟩⟩
    · subst hv
      rw [h.1.cellAt j (by omega)]
      simp [hj]
    · unfold World.frozen?
      rw [hh]
      simp
theorem ownS_at {w0 W : World} {b L cap : Nat} {ss : List (List UInt8)} (h : OwnS w0 (.slice (some ⟨b, 0, none⟩) L cap) ss W) (hL : L = ss.length) (j : Nat) (hj : j < ss.length) : W.cell? ⟨b, j, none⟩ = some (S ss[j]) ∧ W.frozen? ⟨b, j, none⟩ = false := by
  subst hL
  refine ⟨?_, h.1.frozenAt j⟩
  rw [h.1.cellAt j (by omega)]
  simp [hj]
set_option maxRecDepth 20000 in
set_option maxHeartbeats 2000000 in
theorem listC {o : Ow} {g : Nat} {s : Dk} {W : World} (h : Dsk o g s W) (hB : Bd 1000000000 s) :
    Calls Tryz.prog 35 #[.pointer (some ⟨g, 0, none⟩)] W fun e W' => ∃ v, e = .returned v ∧ OwnS W v s.list W' := by
  have CD := hide' (downC h)
  obtain ⟨m0, m1, m2, pv, fb, cs, v⟩ := h
  have V := hide' v
  cases hd : s.down with
  | true =>
    have R : Hid (s.list = []) := by unfold Hid Dk.list; rw [if_pos hd]
    rw [hd] at CD
    clear v hd
    go_enter Tryz.func35, Tryz.ntmps35
    go_wp2_with (go_at_call 67; refine CD.out.mono ?_; rintro e w1 ⟨rfl, n, rfl⟩)
    go_ret
    rw [R.out]
    exact ⟨_, rfl, ownS_nil _ _ (below_drewN _ _)⟩
  | false =>
    have R : Hid (s.list = s.now.map (fun p => p.1)) := by unfold Hid Dk.list; rw [if_neg (by rw [hd]; decide)]
    rw [hd] at CD
    have CR : Hid (∀ n, Calls Tryz.prog 68 #[.map (some m1)] (W.drewN n) fun e w' => ∃ v, e = .returned v ∧ OwnS (W.drewN n) v (s.now.map (fun p => p.1)) w') := fun n => risingC (dkV_drew V.out n).seen V.out.wf.now.1 hB.2.2.1
    have c5 := (cells_eight v.blk).1.2.2.2.2.2.1
    have HSZ : Hid (∀ x ∈ s.now.map (fun p => p.1), x.length ≤ 64) := fun x hx => by
      obtain ⟨p, hp, rfl⟩ := List.mem_map.1 hx
      exact good_len (V.out.wf.now.2 p hp).2
    have hnl : (s.now.map (fun p => p.1)).length ≤ 1000000000 := by rw [List.length_map]; exact hB.2.2.1
    generalize s.now.map (fun p => p.1) = ns at R CR HSZ hnl
    clear v hd hB
    go_enter Tryz.func35, Tryz.ntmps35
    go_wp2_with fail
    refine CD.out.mono ?_
    rintro e w1 ⟨rfl, n, rfl⟩
    go_wp2_with fail
    refine (CR.out n).mono ?_
    rintro e w2 ⟨lv, rfl, ho⟩
    have HO : Hid (OwnS W lv ns w2) := ownS_base ho (below_drewN W n)
    clear ho
    by_cases hz : ns = []
    · obtain ⟨la, lc, hlv⟩ := row_sl HO.out.1
      have e0 : ns.length = 0 := by rw [hz]; rfl
      rw [e0] at hlv
      subst hlv
      clear hz e0 hnl
      go_wp2_with fail
      go_rounds 1
      go_ret
      exact ⟨_, rfl, by rw [R.out]; exact HO.out⟩
    · have hpos : 0 < ns.length := List.length_pos_iff.2 hz
      obtain ⟨b, lc, hlv, hcell⟩ := ownS_slice HO.out hpos
      obtain ⟨L, hL⟩ : ∃ L, L = ns.length := ⟨_, rfl⟩
      have HL := hide' hL
      rw [← hL] at hlv hnl
      subst hlv
      clear hz hpos hcell hL
      go_wp2_with fail
      go_loopw [4, 5, 15] (fun _ _ i wr => ∃ j : Nat, j ≤ L ∧ i = .int .i64 j ∧ Hid (OwnS W (.slice (some ⟨b, 0, none⟩) L lc) ns wr)) (fun _ _ i _ => L - (intOf i).toNat)
      case atStart => exact ⟨0, by omega, rfl, HO⟩
      case round =>
        obtain ⟨j, hj, rfl, HW⟩ := hrel
        by_cases hlt : j < L
        · have hlt' : j < ns.length := by rw [← HL.out]; exact hlt
          obtain ⟨x1, x2⟩ := ownS_at HW.out HL.out j hlt'
          unfold S at x1
          have HX : Hid (S (ns[j]'hlt') = .string ⟨(ns[j]'hlt').toArray⟩) := rfl
          have hxl : (⟨(ns[j]'hlt').toArray⟩ : ByteArray).size ≤ 140737488351232 := by rw [size_l]; have := HSZ.out _ (List.getElem_mem hlt'); omega
          have AG : Hid (∀ w3, Below wr.heap.size wr w3 → OwnS W (.slice (some ⟨b, 0, none⟩) L lc) ns (w3.setCell ⟨b, j, none⟩ (S (ns[j]'hlt'))) ∧ w3.cell? ⟨b, j, none⟩ = some (S (ns[j]'hlt')) ∧ w3.frozen? ⟨b, j, none⟩ = false) := by
            intro w3 hb
            have h3 := ownS_mono HW.out hb
            have h4 := ownS_at h3 HL.out j hlt'
            have hL2 := HL.out
            subst hL2
            exact ⟨ownS_again h3 hlt', h4.1, h4.2⟩
          rw [HX.out] at AG
          generalize (⟨(ns[j]'hlt').toArray⟩ : ByteArray) = y at x1 AG hxl
          clear HX
          go_wp2_with (go_at_call 55; refine (clone y _ hxl).mono ?_; rintro e w3 ⟨rfl, b3⟩; obtain ⟨a3, y3, z3⟩ := AG.out w3 b3; have A3 := hide' a3; clear a3 b3)
          go_roundw
          case rel => exact ⟨j + 1, by omega, by go_num, A3⟩
          case measure => simp [intOf]; omega
        · go_wp2_with fail
          go_ret
          exact ⟨_, rfl, by rw [R.out]; exact HW.out⟩
end Go.Proofs.YtijnjgnckipghaaGreat
