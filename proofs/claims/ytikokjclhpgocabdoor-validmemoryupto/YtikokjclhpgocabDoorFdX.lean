/- The contract of the document's Without. -/
import Derived.Test.YtikokjclhpgocabDoorBm
import Derived.Deep.RegionHeld3
import Derived.Deep.DrawnRows
namespace Go.Proofs.YtikokjclhpgocabDoor
open Go.RowKit Go.Maps
theorem ownF_drew {w0 w : World} {v : Value} {ps : FL} (h : OwnF w0 v ps w) : OwnF w0 v ps w.drew := ownF_mono h (Below.refl _ _).drew
theorem st_callF {f : FuncId} {args : Array Value} {r : Value} (h : ∀ W : World, Calls Tryd.prog f args W fun e w' => e = .returned r ∧ Below W.heap.size W w') {w0 W : World} {v : Value} {acc : FL} (ho : OwnF w0 v acc W)
    {p q : Addr} {x y : Value} (hp : p.block < w0.heap.size) (hq : q.block < w0.heap.size) (cx : w0.cell? p = some x) (cy : w0.cell? q = some y) :
    Calls Tryd.prog f args W fun e w' => e = .returned r ∧ Hid (OwnF w0 v acc w') ∧ w'.cell? p = some x ∧ w'.cell? q = some y := by
  refine (h W).mono ?_
  rintro e w' ⟨rfl, hb⟩
  have o := ownF_mono ho hb
  exact ⟨rfl, o, by rw [o.2.cell hp]; exact cx, by rw [o.2.cell hq]; exact cy⟩
theorem in_step (ns : List (List UInt8)) (j : Nat) (h : j < ns.length) (x : List UInt8) : decide (x ∉ (ns.take (j + 1)).map lows) = (decide (x ∉ (ns.take j).map lows) && !decide (x = lows ns[j])) := by
  rw [List.take_succ_eq_append_getElem h, List.map_append]
  have e : (x ∉ (ns.take j).map lows ++ [ns[j]].map lows) ↔ (x ∉ (ns.take j).map lows ∧ ¬ x = lows ns[j]) := by
    rw [List.mem_append, not_or, List.map_cons, List.map_nil, List.mem_singleton]
  rw [decide_eq_decide.2 e, Bool.decide_and, decide_not, decide_not]
theorem ba_eql (a b : List UInt8) (h : ¬ a = b) : ((⟨a.toArray⟩ : ByteArray).toList == (⟨b.toArray⟩ : ByteArray).toList) = false := by
  rw [Lib.toList_data, Lib.toList_data]; simpa using h
attribute [local go_sem ↓] Go.wp_at_zero Go.wp_at_succ
set_option maxHeartbeats 4000000 in
theorem withoutRef (v vn : Value) (fs : FL) (ns : List (List UInt8)) (w : World) (hv : HoldsF w v fs) (hn : Holds w vn ns) (hfit : Fit fs) (hfn : ∀ n ∈ ns, n.length ≤ 140737488351232)
    (hl : fs.length * 32 ≤ 140737488355328) (hln : ns.length ≤ 8796093022208) :
    Calls Tryd.prog 18 #[v, vn] w fun e w' => ∃ u, e = .returned u ∧ OwnF w u (withoutOf fs ns) w' := by
  obtain ⟨ao, ca, b1, o1, rfl, hca⟩ := holdsF_parts hv
  obtain ⟨bo, cb, b2, o2, rfl, hcb⟩ := holds_parts hn
  have CA : Hid _ := hca
  have CB : Hid _ := hcb
  have FT : Hid _ := hfit
  have FN : Hid _ := hfn
  clear hca hcb hv hn hfit hfn
  obtain ⟨n, en⟩ : ∃ n, n = fs.length := ⟨_, rfl⟩
  obtain ⟨m, em⟩ : ∃ m, m = ns.length := ⟨_, rfl⟩
  have N : Hid (fs.length = n) := en.symm
  have M : Hid (ns.length = m) := em.symm
  rw [N.out] at hl ⊢
  rw [M.out] at hln ⊢
  clear en em
  go_enter Tryd.func18, Tryd.ntmps18
  go_wp2_with fail
  go_loopw [5, 6] (fun v i wr => ∃ (vo : Value) (k : Nat), vo = v ∧ k ≤ n ∧ i = .int .i64 k ∧ OwnF w vo (withoutOf (fs.take k) ns) wr) (fun _ i _ => n - (intOf i).toNat)
  case atStart => exact ⟨_, 0, rfl, Nat.zero_le _, rfl, ownF_empty w⟩
  case round =>
    obtain ⟨vo, k, rfl, hk, rfl, ho⟩ := hrel
    obtain ⟨w1, ew⟩ : ∃ w1, w1 = wr := ⟨_, rfl⟩
    subst ew
    have hac : (withoutOf (fs.take k) ns).length ≤ k := Nat.le_trans (without_len _ _) (List.length_take_le _ _)
    by_cases hlt : k < n
    · have G : Hid (k < fs.length) := by unfold Hid; rw [N.out]; exact hlt
      obtain ⟨hao, hblt, hcell⟩ := CA.out (by have := G.out; omega)
      subst hao
      obtain ⟨h1, h2⟩ := hcell k G.out
      unfold S at h1 h2
      obtain ⟨hs1, hs2⟩ := fit_at FT.out k G.out
      have cX := fun W => lowerRef ⟨(fs[k]'G.out).1.toArray⟩ W (by rw [size_l]; exact hs1)
      simp only at cX
      have R1 : Hid (lows (fs[k]'G.out).1 ∈ ns.map lows → withoutOf (fs.take (k + 1)) ns = withoutOf (fs.take k) ns) := fun h => without_hit fs ns k G.out h
      have R2 : Hid (lows (fs[k]'G.out).1 ∉ ns.map lows → withoutOf (fs.take (k + 1)) ns = withoutOf (fs.take k) ns ++ [((fs[k]'G.out).1, (fs[k]'G.out).2)]) := fun h => without_miss fs ns k G.out h
      have CX := hide' cX
      have O := hide' ho
      clear hcell cX ho
      generalize (fs[k]'G.out).1 = q1 at h1 CX hs1 R1 R2
      generalize (fs[k]'G.out).2 = q2 at h2 hs2 R2
      generalize withoutOf (fs.take k) ns = acc at O R1 R2 hac
      have C1 := hide' h1
      have C2 := hide' h2
      clear h1 h2
      go_wp2_with fail
      go_loopw [7, 8] (fun kp j wr => ∃ (i : Nat) (kb : Bool), i ≤ m ∧ j = .int .i64 i ∧ kp = .bool kb ∧ Hid (kb = decide (lows q1 ∉ (ns.take i).map lows)) ∧ Hid (OwnF w vo acc wr)) (fun _ j _ => m - (intOf j).toNat)
      case atStart => exact ⟨0, true, Nat.zero_le _, rfl, rfl, by unfold Hid; simp, O⟩
      case round =>
        clear O
        obtain ⟨i, kb, hi, rfl, rfl, KB, O⟩ := hrel
        by_cases hit : i < m
        · have G2 : Hid (i < ns.length) := by unfold Hid; rw [M.out]; exact hit
          obtain ⟨hbo, hblt2, hcell⟩ := CB.out (by have := G2.out; omega)
          subst hbo
          have hy := hcell i G2.out
          unfold S at hy
          have hs3 := FN.out _ (List.getElem_mem G2.out)
          have cY := fun W => lowerRef ⟨(ns[i]'G2.out).toArray⟩ W (by rw [size_l]; exact hs3)
          simp only at cY
          have R3 := hide' (in_step ns i G2.out (lows q1))
          have CY := hide' cY
          have cx : wr.cell? ⟨b1, o1 + k * 2, none⟩ = some (.string ⟨q1.toArray⟩) := by rw [O.out.2.cell (p := ⟨b1, o1 + k * 2, none⟩) hblt]; exact C1.out
          have cy : wr.cell? ⟨b2, o2 + i, none⟩ = some (.string ⟨(ns[i]'G2.out).toArray⟩) := by rw [O.out.2.cell (p := ⟨b2, o2 + i, none⟩) hblt2]; exact hy
          have C3 := hide' hy
          clear hcell cY hy
          generalize ns[i]'G2.out = q3 at CY C3 cy hs3 R3
          have kX := hide' (fun (W : World) (ho : OwnF w vo acc W) => st_callF CX.out ho (p := ⟨b1, o1 + k * 2, none⟩) (q := ⟨b2, o2 + i, none⟩) hblt hblt2 C1.out C3.out)
          have kY := hide' (fun (W : World) (ho : OwnF w vo acc W) => st_callF CY.out ho (p := ⟨b1, o1 + k * 2, none⟩) (q := ⟨b2, o2 + i, none⟩) hblt hblt2 C1.out C3.out)
          by_cases he : lows q1 = lows q3
          · rw [decide_eq_true he, Bool.not_true, Bool.and_false] at R3
            rw [← he] at kY
            clear he
            go_wp2_with fail
            go_region_held3 (fun w' => w'.cell? ⟨b1, o1 + k * 2, none⟩ = some (.string ⟨q1.toArray⟩) ∧ w'.cell? ⟨b2, o2 + i, none⟩ = some (.string ⟨q3.toArray⟩)) (go_keep)
              (first
                | (go_at_call_of 34 (q1); refine (kX.out _ ?_).mono ?_; (first | exact O2.out | exact ownF_drew O.out); rintro e w2 ⟨rfl, O2, k1, k2⟩)
                | (go_at_call_of 34 (q3); refine (kY.out _ ?_).mono ?_; (first | exact O2.out | exact ownF_drew O.out); rintro e w2 ⟨rfl, O2, k1, k2⟩))
            all_goals
              go_wp2_with fail
              go_roundw
              case rel => exact ⟨i + 1, _, by omega, by go_num, rfl, (by unfold Hid; rw [R3.out]), O2⟩
              case measure => simp [intOf]; omega
          · have hne := ba_eql _ _ he
            rw [decide_eq_false he, Bool.not_false, Bool.and_true] at R3
            have hne2 : (lows q1 == lows q3) = false := by simpa using he
            clear he
            generalize lows q3 = l3 at kY hne hne2 R3
            go_wp2_with fail
            go_region_held3 (fun w' => w'.cell? ⟨b1, o1 + k * 2, none⟩ = some (.string ⟨q1.toArray⟩) ∧ w'.cell? ⟨b2, o2 + i, none⟩ = some (.string ⟨q3.toArray⟩)) (go_keep)
              (first
                | (go_at_call_of 34 (q1); refine (kX.out _ ?_).mono ?_; (first | exact O2.out | exact ownF_drew O.out); rintro e w2 ⟨rfl, O2, k1, k2⟩)
                | (go_at_call_of 34 (q3); refine (kY.out _ ?_).mono ?_; (first | exact O2.out | exact ownF_drew O.out); rintro e w2 ⟨rfl, O2, k1, k2⟩))
            all_goals
              go_wp2_with fail
              go_roundw
              case rel => exact ⟨i + 1, _, by omega, by go_num, rfl, (by unfold Hid; rw [R3.out]; exact KB.out), O2⟩
              case measure => simp [intOf]; omega
        · have E : Hid (ns.take i = ns) := List.take_of_length_le (by rw [M.out]; omega)
          rw [E.out] at KB
          have cx : wr.cell? ⟨b1, o1 + k * 2, none⟩ = some (.string ⟨q1.toArray⟩) := by rw [O.out.2.cell (p := ⟨b1, o1 + k * 2, none⟩) hblt]; exact C1.out
          have cx2 : wr.cell? ⟨b1, o1 + k * 2 + 1, none⟩ = some (.string ⟨q2.toArray⟩) := by rw [O.out.2.cell (p := ⟨b1, o1 + k * 2 + 1, none⟩) hblt]; exact C2.out
          by_cases hin : lows q1 ∈ ns.map lows
          · have R := hide' (R1.out hin)
            have kf : kb = false := by rw [KB.out]; exact decide_eq_false (fun h => h hin)
            subst kf
            clear hin
            go_wp2_with fail
            go_roundw
            case rel => exact ⟨_, k + 1, rfl, by omega, by go_num, by rw [R.out]; exact O.out⟩
            case measure => simp [intOf]; omega
          · have R := hide' (R2.out hin)
            have kf : kb = true := by rw [KB.out]; exact decide_eq_true hin
            subst kf
            clear hin
            go_wp2_with (at_builtin; refine appF rfl (.tmp 35) (.tmp 40) rfl w _ _ rfl O.out (q1, q2) rfl rfl rfl rfl (by omega) ?_; intro v5 w5 ho5)
            go_roundw
            case rel => exact ⟨_, k + 1, rfl, by omega, by go_num, by rw [R.out]; exact ho5⟩
            case measure => simp [intOf]; omega
    · have E : Hid (fs.take k = fs) := List.take_of_length_le (by rw [N.out]; omega)
      rw [E.out] at ho
      go_wp2_with fail
      go_ret
      exact ⟨_, rfl, ho⟩
end Go.Proofs.YtikokjclhpgocabDoor
