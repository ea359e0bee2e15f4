/- A table's New, Keys, Put. -/
import Derived.Test.YtikkmnclcbanfaaLrDI
import Derived.Test.YtikkmnclcbanfaaCln
import Derived.Test.YtikkmnclcbanfaaLrQ
import Derived.LaidEqlPtr
namespace Go.Proofs.Ytikkmnclcbanfaa
open Go.RowKit Go.Maps Go.WideMaps
/-- a new table -/
theorem new_lrI {W : World} {g m rb : Nat} {room : Int} (hb : Blk g W [.int .i64 room, .int .i64 0, .map (some m), .pointer (some ⟨rb, 0, none⟩)]) (hr : Blk rb W (celI nilI rb rb)) (hp : Pln rb W) (hm : W.heap[m]? = some (.map #[] 0)) (h1 : g ≠ m) (h2 : g ≠ rb) (h3 : m ≠ rb) (hrm : 0 ≤ room ∧ room ≤ 1073741824) :
    TbI (fun k => k = g ∨ k = m ∨ k = rb) g room [] 0 W := by
  refine ⟨m, rb, [], [], fun _ => rb, fun _ => rb, ⟨hb, ⟨fun x hx => ?_, ⟨rfl, rfl, trivial⟩, by simp, fun k hk => by rw [List.mem_singleton.1 hk]; exact hp⟩, tbn_empty hm, fun k => rfl, List.Pairwise.nil, h1, by simpa using h2, by simpa using h3, ⟨List.nodup_nil, by simp, by simpa [used_nil] using hrm.1, hrm, by simp⟩⟩, rfl, by simp, by simp, fun k hk => ?_, fun k hk => ?_⟩
  · rw [List.mem_singleton.1 hx]; exact hr
  · rcases hk with e | e | e
    · exact .inl e
    · exact .inr (.inl e)
    · exact .inr (.inr (by simpa [RingSI] using e))
  · rcases hk with e | e | e
    · rw [e]; exact hb.2
    · rw [e]; exact tbn_lt (tbn_empty hm)
    · rw [e]; exact hr.2
set_option maxRecDepth 20000 in
set_option maxHeartbeats 2000000 in
theorem newIC (room : Int) (W : World) :
    Calls Try.prog 9 #[.int .i64 room] W fun e W' => ∃ S g, e = .returned (.pointer (some ⟨g, 0, none⟩)) ∧ TbI S g (min (max room 0) 1073741824) [] 0 W' ∧ Below W.heap.size W W' ∧ ∀ k, S k → W.heap.size ≤ k := by
  have hmm := @run_makeMap Try.prog
  go_enter Try.func9, Try.ntmps9
  go_wp2_with fail
  go_ret
  refine ⟨fun k => k = W.heap.size + 1 + 1 ∨ k = W.heap.size + 1 ∨ k = W.heap.size, _, rfl, new_lrI ?_ ?_ ?_ ?_ (by omega) (by omega) (by omega) (by omega), ?_, fun k hk => by omega⟩
  · have := cells_lit ((W.alloc (.cells #[.string ⟨#[]⟩, .int .i64 0, .int .i64 0, .pointer (some ⟨W.heap.size, 0, none⟩), .pointer (some ⟨W.heap.size, 0, none⟩)] 66)).alloc (.map #[] 0)) #[.int .i64 (min (max room 0) 1073741824), .int .i64 0, .map (some (W.heap.size + 1)), .pointer (some ⟨W.heap.size, 0, none⟩)] 69
    simpa using this
  · have k1 := cells_lit W #[.string ⟨#[]⟩, .int .i64 0, .int .i64 0, .pointer (some ⟨W.heap.size, 0, none⟩), .pointer (some ⟨W.heap.size, 0, none⟩)] 66
    have k2 := cells_below (cells_below k1 (below_alloc' _ (.map #[] 0))) (below_alloc' _ (.cells #[.int .i64 (min (max room 0) 1073741824), .int .i64 0, .map (some (W.heap.size + 1)), .pointer (some ⟨W.heap.size, 0, none⟩)] 69))
    exact k2
  · exact pln_off (S := fun _ => False) (pln_off (S := fun _ => False) (pln_lit W #[.string ⟨#[]⟩, .int .i64 0, .int .i64 0, .pointer (some ⟨W.heap.size, 0, none⟩), .pointer (some ⟨W.heap.size, 0, none⟩)] 66) (off_of (below_alloc' _ (.map #[] 0))) (fun e => e)) (off_of (below_alloc' _ _)) (fun e => e)
  · have k1 := heap_alloc_new (W.alloc (.cells #[.string ⟨#[]⟩, .int .i64 0, .int .i64 0, .pointer (some ⟨W.heap.size, 0, none⟩), .pointer (some ⟨W.heap.size, 0, none⟩)] 66)) (.map #[] 0)
    have e0 : (W.alloc (.cells #[.string ⟨#[]⟩, .int .i64 0, .int .i64 0, .pointer (some ⟨W.heap.size, 0, none⟩), .pointer (some ⟨W.heap.size, 0, none⟩)] 66)).heap.size = W.heap.size + 1 := by simp
    rw [e0] at k1
    rw [(below_alloc' ((W.alloc (.cells #[.string ⟨#[]⟩, .int .i64 0, .int .i64 0, .pointer (some ⟨W.heap.size, 0, none⟩), .pointer (some ⟨W.heap.size, 0, none⟩)] 66)).alloc (.map #[] 0)) (.cells #[.int .i64 (min (max room 0) 1073741824), .int .i64 0, .map (some (W.heap.size + 1)), .pointer (some ⟨W.heap.size, 0, none⟩)] 69)).block (W.heap.size + 1) (by simp)]
    exact k1
  · exact ((below_alloc' W _).trans ((below_alloc' _ _).mono (by simp))).trans ((below_alloc' _ _).mono (by simp; omega))
theorem infI : ∃ i, Try.prog.info? 66 = some i ∧ i.size ≠ 0 := by
  have h : (Try.prog.info? 66).map (fun i => i.size) = some 5 := by kernel_rfl
  obtain ⟨i, e1, e2⟩ := Option.map_eq_some_iff.1 h
  exact ⟨i, e1, by rw [e2]; decide⟩
theorem neq_sameI (w : World) (a : Nat) : (binOp .neq 64 (.pointer (some ⟨a, 0, none⟩)) (.pointer (some ⟨a, 0, none⟩))).run Try.prog w = .ok (.bool false) w := by
  obtain ⟨i, hi⟩ := infI
  have h : ∀ d : Nat, (Op.equalIn (d + 1) 64 (.pointer (some ⟨a, 0, none⟩)) (.pointer (some ⟨a, 0, none⟩))).run Try.prog w = .ok true w := fun d => by
    simp [Op.equalIn, run_underlying Try.underlying64, sizeOf, typeInfo, hi.1, run_sameAddr_same]
  simp only [binOp]
  simp [Op.equal, Op.maxDepth, h 9999]
theorem neq_otherI {w : World} {a b : Nat} (hne : a ≠ b) (ha : Pln a w) (hb : Pln b w) : (binOp .neq 64 (.pointer (some ⟨a, 0, none⟩)) (.pointer (some ⟨b, 0, none⟩))).run Try.prog w = .ok (.bool true) w := by
  obtain ⟨i, hi⟩ := infI
  obtain ⟨ca, ta, ea⟩ := ha
  obtain ⟨cb, tb, eb⟩ := hb
  have h : ∀ d : Nat, (Op.equalIn (d + 1) 64 (.pointer (some ⟨a, 0, none⟩)) (.pointer (some ⟨b, 0, none⟩))).run Try.prog w = .ok false w := fun d => by
    simp [Op.equalIn, run_underlying Try.underlying64, sizeOf, typeInfo, hi.1, hi.2, run_sameAddr_other (P := Try.prog) w (a := ⟨a, 0, none⟩) (b := ⟨b, 0, none⟩) (fun e => hne (congrArg Addr.block e)) ea eb]
  simp only [binOp]
  simp [Op.equal, Op.maxDepth, h 9999]
set_option maxRecDepth 20000 in
set_option maxHeartbeats 2000000 in
theorem keysIC {S : Nat → Prop} {g c : Nat} {room : Int} {l : List (It Int)} {W : World} (h : TbI S g room l c W) (hc : c ≤ 1000000) :
    Calls Try.prog 23 #[.pointer (some ⟨g, 0, none⟩)] W fun e W' => ∃ kv, e = .returned kv ∧ OwnS W kv (keysT l) W' := by
  obtain ⟨m, rb, ns, nl, O, N, h1, h2, h3, h4, h5, h6⟩ := h
  obtain ⟨n, hn⟩ : ∃ n, n = l.length := ⟨_, rfl⟩
  have hnn : n ≤ 1000000 := by omega
  have hnl : ns.length = n := by rw [hn, h2, List.length_map]
  obtain ⟨c0, c1, c2, c3, f1⟩ := lr_cellsI h1
  have hlen := World.ownsMap.len h1.tbl Try.underlying67 3
  have hlen0 := World.ownsMap.len h1.tbl Try.underlying67 0
  rw [dOf_size] at hlen hlen0
  have hc3 : nl.length ≤ 1000000 := by omega
  have hmk := makeT W nl.length hc3
  have OM := hide' (own_madeT W nl.length hc3)
  -- where the walk stands
  have AT : ∀ j, j ≤ n → ∃ b, (ns.map (fun x => x.1) ++ [rb])[j]? = some b := fun j hj => ⟨_, List.getElem?_eq_getElem (by simp; omega)⟩
  have c3r : W.cell? ⟨rb, 3, none⟩ = some (.pointer (some ⟨O rb, 0, none⟩)) := (cel_cellsI (h1.rg.all (rb, nilI) (by simp))).2.2.1
  have START : Hid ((ns.map (fun x => x.1) ++ [rb])[0]? = some (O rb)) := by
    have := (ch_at _ rb h1.rg.chain 0 (by simp)).1
    unfold Hid
    rw [List.getElem?_eq_getElem (by simp), ← this]
    rfl
  have STOP : Hid (∀ j b, j ≤ n → (ns.map (fun x => x.1) ++ [rb])[j]? = some b → (b = rb ↔ j = n)) := fun j b hj hb => by
    by_cases e : j = n
    · subst e
      rw [List.getElem?_append_right (by simp [hnl])] at hb
      simp [hnl] at hb
      simp [hb]
    · rw [List.getElem?_append_left (by simp [hnl]; omega)] at hb
      refine ⟨fun e2 => ?_, fun e2 => absurd e2 e⟩
      have := List.mem_of_getElem? hb
      exact absurd (by rw [← e2]; exact this) (List.nodup_cons.1 h1.rg.once).1
  have NODE : Hid (∀ j b, j < n → (ns.map (fun x => x.1) ++ [rb])[j]? = some b → ∃ kk : Nm, (keysT l)[j]? = some kk ∧ kk.length ≤ 140737488351232 ∧ b < W.heap.size ∧ W.cell? ⟨b, 0, none⟩ = some (.string ⟨kk.toArray⟩) ∧ ∃ b2, W.cell? ⟨b, 3, none⟩ = some (.pointer (some ⟨b2, 0, none⟩)) ∧ (ns.map (fun x => x.1) ++ [rb])[j + 1]? = some b2) := fun j b hj hb => by
    have hjn : j < ns.length := by omega
    rw [List.getElem?_append_left (by simp [hnl]; omega), List.getElem?_map, List.getElem?_eq_getElem hjn] at hb
    simp only [Option.map_some, Option.some.injEq] at hb
    have hm : ns[j] ∈ ns := List.getElem_mem hjn
    have bx := h1.rg.all ns[j] (by simp)
    obtain ⟨k0, _, k2, _, _, _⟩ := cel_cellsI bx
    rw [hb] at k0 k2 bx
    refine ⟨ns[j].2.key, ?_, h1.ok.len _ (List.mem_map.2 ⟨_, hm, rfl⟩), bx.2, k0, O b, k2, ?_⟩
    · rw [h2]; simp [keysT, hjn]
    · have := (ch_at _ rb h1.rg.chain (j + 1) (by simp; omega)).1
      rw [List.getElem?_eq_getElem (by simp; omega), ← this]
      congr 2
      rw [List.getElem_cons_succ, List.getElem_append_left (by simpa using hjn), List.getElem_map, hb]
  have PL : Hid (∀ j b wr, (ns.map (fun x => x.1) ++ [rb])[j]? = some b → Below W.heap.size W wr → Pln b wr ∧ Pln rb wr) := fun j b wr hb hw => by
    have hp : ∀ k ∈ rb :: ns.map (fun x => x.1), Pln k wr := fun k hk => pln_off (S := fun _ => False) (h1.rg.pln k hk) (off_of hw) (fun e => e)
    refine ⟨hp b ?_, hp rb (by simp)⟩
    rcases List.mem_append.1 (List.mem_of_getElem? hb) with e | e
    · exact List.mem_cons_of_mem _ e
    · rw [List.mem_singleton.1 e]; simp
  have hkl : Hid ((keysT l).length = n) := by unfold Hid keysT; rw [List.length_map, hn]
  have gl := h1.blk.2
  have hrl : rb < W.heap.size := (h1.rg.all (rb, nilI) (by simp)).2
  generalize nl.length = cp at *
  clear h1 h2 h3 h4 h5 h6 hn hnl c0 c1 f1 AT
  go_enter Try.func23, Try.ntmps23
  go_wp2_with fail
  go_loopw [3, 4] (fun lv pv wr => ∃ (j b : Nat), j ≤ n ∧ pv = .pointer (some ⟨b, 0, none⟩) ∧ lenS lv = j ∧ Hid ((ns.map (fun x => x.1) ++ [rb])[j]? = some b) ∧ Hid (OwnS W lv ((keysT l).take j) wr)) (fun lv _ _ => n - lenS lv)
  case atStart => exact ⟨0, O rb, by omega, rfl, by simp [lenS], START, OM⟩
  case round =>
    obtain ⟨j, b, hj, rfl, hlj, HB, HW⟩ := hrel
    have hst := STOP.out j b hj HB.out
    have k3 : wr.cell? ⟨g, 3, none⟩ = some (.pointer (some ⟨rb, 0, none⟩)) := by rw [HW.out.2.cell (p := ⟨g, 3, none⟩) gl]; exact c3
    have hpb := PL.out j b wr HB.out HW.out.2
    by_cases hb : b = rb
    · have hcmp := neq_sameI wr rb
      have hjn : j = n := hst.1 hb
      have HJ := hide' hjn
      subst hb
      clear hst hjn
      go_wp2_with fail
      go_ret
      have := HW.out
      rw [List.take_of_length_le (by rw [hkl.out, HJ.out]; exact Nat.le_refl _)] at this
      exact ⟨_, rfl, this⟩
    · have hcmp := neq_otherI hb hpb.1 hpb.2
      have hjn : j < n := by
        have : j ≠ n := fun e => hb (hst.2 e)
        omega
      obtain ⟨kk, e1, e2, e3, e4, b2, e5, e6⟩ := NODE.out j b hjn HB.out
      have k0 : wr.cell? ⟨b, 0, none⟩ = some (.string ⟨kk.toArray⟩) := by rw [HW.out.2.cell (p := ⟨b, 0, none⟩) e3]; exact e4
      have E1 := hide' e1
      have E5 := hide' e5
      have E6 := hide' e6
      have hks : (⟨kk.toArray⟩ : ByteArray).size ≤ 140737488351232 := by rw [size_l]; exact e2
      have hll : ((keysT l).take j).length = j := by rw [List.length_take, hkl.out]; omega
      have HLL := hide' hll
      generalize hyy : (⟨kk.toArray⟩ : ByteArray) = y at k0 hks
      have HYY := hide' hyy
      clear hst e1 e2 e4 e5 e6 hyy hll
      go_wp2_with (first
        | (go_at_call 38; refine (clone y _ hks).mono ?_; rintro e w2 ⟨rfl, b2'⟩; have B2 := hide' b2'; have HW2 := hide' (ownS_mono HW.out b2'); clear b2')
        | (at_builtin; refine appS rfl (.tmp 28) (.tmp 34) rfl W _ ((keysT l).take j) rfl HW2.out kk HYY.out.symm rfl (by rw [HLL.out]; omega) ?_; intro v3 w3 a3; have A3 := hide' a3; have k5 : w3.cell? ⟨b, 3, none⟩ = some (.pointer (some ⟨b2, 0, none⟩)) := (by rw [A3.out.2.cell (p := ⟨b, 3, none⟩) e3]; exact E5.out); clear a3))
      go_roundw
      case rel =>
        have e9 : (keysT l).take (j + 1) = (keysT l).take j ++ [kk] := by
          obtain ⟨hjl, e8⟩ := List.getElem?_eq_some_iff.1 E1.out
          rw [List.take_succ_eq_append_getElem hjl, e8]
        have hA := A3.out
        rw [← e9] at hA
        refine ⟨j + 1, b2, by omega, rfl, ?_, E6, hA⟩
        obtain ⟨a, c9, e7⟩ := ownT_len (base := W.heap.size) hA.1
        rw [e7]
        show ((keysT l).take (j + 1)).length = j + 1
        rw [List.length_take, hkl.out]
        omega
      case measure =>
        obtain ⟨a, c9, e7⟩ := ownT_len (base := W.heap.size) A3.out.1
        have e8 : lenS v3 = j + 1 := by
          rw [e7]
          show ((keysT l).take j ++ [kk]).length = j + 1
          rw [List.length_append, HLL.out]
          rfl
        first | (rw [e8, hlj]; omega) | (show n - lenS v3 < n - lenS u3; rw [e8, hlj]; omega)
end Go.Proofs.Ytikkmnclcbanfaa
