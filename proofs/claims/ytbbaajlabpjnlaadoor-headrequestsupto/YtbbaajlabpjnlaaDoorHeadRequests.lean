/- HeadRequests, where what it reads is of bulk at most 1048576: for every list of bytes the law returns true and the bytes read as before; the tables of package utf8 are as the program lays them (the tie is given). -/
import Derived.Test.YtbbaajlabpjnlaaDoorFdE
import Derived.Test.YtbbaajlabpjnlaaDoorHdJ
import Derived.Test.YtbbaajlabpjnlaaDoorHdO
import Derived.Test.YtbbaajlabpjnlaaDoorHdS
import Derived.Test.YtbbaajlabpjnlaaDoorHdG
import Derived.Test.YtbbaajlabpjnlaaDoorOpnF
import Derived.Test.YtbbaajlabpjnlaaDoorOpnB
import Derived.Test.YtbbaajlabpjnlaaDoorFdEn
import Derived.Test.YtbbaajlabpjnlaaDoorCards
import Derived.Test.YtbbaajlabpjnlaaDoorTie
import Derived.OpenShut
import Derived.ShutString
import Derived.ChangeOld
import Derived.Below
import Derived.SizedLaws
import Derived.Deep.DeepHandedRow
import Derived.Lib.LaidTab
namespace Go.Proofs.YtbbaajlabpjnlaaDoor
open Go.RowKit
def mks : List UInt8 := [201, 202, 203, 204, 205, 206, 207, 208]
theorem mks_at : ∀ k (h : k < mks.length), ((mks[k]).toNat : Int) = 201 + (k : Int) := by
  intro k h
  have : ∀ j : Fin 8, ((mks[j.val]'(show j.val < mks.length from j.isLt)).toNat : Int) = 201 + (j.val : Int) := by decide
  exact this ⟨k, h⟩
set_option maxHeartbeats 1000000 in
theorem spareC (v : Value) (bs : List UInt8) (w : World) (hv : HoldsB w v bs) (hl : bs.length ≤ 1000000000) :
    Calls Tryd.prog 6 #[v] w fun e w' => ∃ u, e = .returned u ∧ Own w u (bs ++ mks) w' := by
  have c0 := hide' (copyB v bs w hv (by omega))
  clear hv
  go_enter Tryd.func6, Tryd.ntmps6
  go_wp2_with fail
  refine c0.out.mono ?_
  rintro e w1 ⟨u, rfl, ho⟩
  have HO := hide' ho
  clear ho c0
  go_wp2
  go_loopw [3, 4] (fun v i wr => ∃ k : Nat, k ≤ 8 ∧ i = .int .i64 k ∧ Hid (Own w v (bs ++ mks.take k) wr)) (fun _ i _ => 8 - (intOf i).toNat)
  case atStart => exact ⟨0, by omega, rfl, by unfold Hid; rw [List.take_zero, List.append_nil]; exact HO.out⟩
  case round =>
    obtain ⟨k, hk, rfl, hO⟩ := hrel
    by_cases hlt : k < 8
    · have hm : Hid (((mks[k]'hlt).toNat : Int) = 201 + (k : Int)) := mks_at k hlt
      have ht : Hid (bs ++ mks.take (k + 1) = (bs ++ mks.take k) ++ [mks[k]'hlt]) := by
        unfold Hid; rw [List.take_succ_eq_append_getElem hlt, List.append_assoc]
      have hle : Hid ((bs ++ mks.take k).length + 1 ≤ 140737488355328) := by
        unfold Hid; rw [List.length_append, List.length_take]; have : mks.length = 8 := rfl; omega
      generalize mks[k]'hlt = c at hm ht
      go_wp2_with (at_builtin; refine app1 rfl (.tmp 11) (.tmp 15) rfl w _ _ rfl hO.out c (by rw [hm.out]) rfl hle.out ?_; intro v2 w2 hown2)
      go_roundw
      case rel => exact ⟨k + 1, by omega, by go_num, by unfold Hid; rw [ht.out]; exact hown2⟩
      case measure => simp [intOf]; omega
    · obtain rfl : k = 8 := by omega
      go_wp2
      go_ret
      exact ⟨_, rfl, hO.out⟩
theorem own_front {w0 w : World} {v : Value} {xs ys : List UInt8} (h : Own w0 v (xs ++ ys) w) (hy : ys ≠ []) : ∃ b cap, v = .slice (some ⟨b, 0, none⟩) (xs.length + ys.length) cap ∧ xs.length + ys.length ≤ cap ∧ HoldsB w (.slice (some ⟨b, 0, none⟩) xs.length cap) xs := by
  obtain ⟨ao, cap, rfl, _, hcp, hc⟩ := holdsB_own h
  obtain ⟨hl, h1 | ⟨g, cap', cur, hv, hg, hh, hr⟩⟩ := h.1
  · have := congrArg (fun v => match v with | Value.slice _ n _ => n | _ => 0) h1.1
    have hp : 0 < ys.length := List.length_pos_iff.2 hy
    simp [List.length_append] at this
    exact absurd this.2 hy
  · simp only [Value.slice.injEq] at hv
    obtain ⟨rfl, _, rfl⟩ := hv
    obtain ⟨b, off, e, hlt, hcell⟩ := hc (by simp [hy])
    simp only [Option.some.injEq, Addr.mk.injEq, and_true] at e
    obtain ⟨rfl, rfl⟩ := e
    rw [List.length_append] at hcp
    refine ⟨g, cap, by rw [List.length_append], hcp, ⟨_, cap, rfl, (fun e => by cases e), by omega, fun _ => ⟨g, 0, rfl, hlt, fun j hj => ?_⟩⟩⟩
    rw [hcell j (by rw [List.length_append]; omega), List.getElem_append_left hj]
end Go.Proofs.YtbbaajlabpjnlaaDoor
namespace Go.Proofs.YtbbaajlabpjnlaaDoor
open Go.RowKit
namespace headRequests
theorem fs_len (b : List UInt8) : (reqOf b).1.fs.length ≤ 100 := by
  rcases Nat.eq_zero_or_pos (reqOf b).2.1 with h | h
  · rw [(req_nothing b (.inr h)).2]; simp
  · exact (req_host b h).2.2.2.2.2.2.2
theorem n_len (b : List UInt8) : (reqOf b).2.1 ≤ 8192 := by
  rcases Nat.eq_zero_or_pos (reqOf b).2.1 with h | h
  · omega
  · exact (req_host b h).1
set_option maxRecDepth 20000 in
set_option maxHeartbeats 8000000 in
theorem walk (v : Value) (bs : List UInt8) (w : World) (hv : HoldsB w v bs) (hl : bs.length ≤ 1048576) (E : Env w) :
    Calls Tryd.prog 3 #[v] w fun e w' => e = .returned (.bool true) ∧ Below w.heap.size w w' := by
  have HV := hide' hv
  have EV := hide' E
  have C0 := hide' (aliveHC w E)
  have fl1 := fs_len bs
  have fl2 := n_len bs
  have ml : mks.length = 8 := rfl
  have cR := hide' (fun W (u : Value) (hb : HoldsB W u bs) (hE : Env W) => reqC u bs W hb hE (by omega))
  have cD := hide' (fun W (u : Value) (hb : HoldsB W u bs) => refReq u bs W hb (by omega))
  unfold reqV rqV at cR cD
  generalize reqOf bs = R at cR cD fl1 fl2
  obtain ⟨⟨qm, qt, qk, fs⟩, N, ee⟩ := R
  simp only at cR cD fl1 fl2
  obtain ⟨ao, cap, rfl, _⟩ := hv
  clear E
  go_enter Tryd.func3, Tryd.ntmps3
  go_wp2_with fail
  refine C0.out.mono ?_
  rintro e w1 ⟨rfl, b1⟩
  have B1 := hide' b1
  clear b1 C0
  go_wp2_with fail
  refine (spareC _ bs _ (holdsB_mono HV.out B1.out) (by omega)).mono ?_
  rintro e w3 ⟨u3, rfl, ho3⟩
  have B3 := hide' (bt' B1.out ho3.2)
  have R3 := hide' (holdsB_own ho3)
  obtain ⟨fb, fc, rfl, hfc, hF⟩ := own_front ho3 (by decide)
  rw [ml] at hfc R3 ⊢
  have HF := hide' hF
  clear ho3 hF
  go_wp2_with fail
  refine (cR.out _ _ HF.out (env_below EV.out B3.out)).mono ?_
  rintro e w4 ⟨lv4, rfl, ho4⟩
  have B4 := hide' (bt' B3.out ho4.2)
  have R4 := hide' (holdsB_mono R3.out ho4.2)
  have F4 := hide' (holdsF_own ho4)
  obtain ⟨la, lc, lb, lo, hlv, _⟩ := holdsF_parts F4.out
  subst hlv
  clear ho4 R3 HF
  have b5 := below_alloc' w4 (.cells #[.string ⟨qm.toArray⟩, .string ⟨qt.toArray⟩, .int .i64 qk, .slice la fs.length lc] 27)
  have B5 := hide' (bt' B4.out b5)
  have Q5 := hide' (quad_lit w4 (.string ⟨qm.toArray⟩) (.string ⟨qt.toArray⟩) (.int .i64 qk) (.slice la fs.length lc) 27)
  have R5 := hide' (holdsB_mono R4.out b5)
  have F5 := hide' (holdsF_mono F4.out b5)
  clear b5 R4 F4
  go_wp2_with fail
  refine (cD.out _ _ (holdsB_mono HV.out B5.out)).mono ?_
  rintro e w6 ⟨lv6, rfl, ho6⟩
  have B6 := hide' (bt' B5.out ho6.2)
  have Q6 := hide' (quad_below Q5.out ho6.2)
  have R6 := hide' (holdsB_mono R5.out ho6.2)
  have F6 := hide' (holdsF_mono F5.out ho6.2)
  have G6 := hide' (holdsF_own ho6)
  obtain ⟨ma, mc, mb, mo, hmv, _⟩ := holdsF_parts G6.out
  subst hmv
  clear ho6 R5 F5 Q5
  have b7 := below_alloc' w6 (.cells #[.string ⟨qm.toArray⟩, .string ⟨qt.toArray⟩, .int .i64 qk, .slice ma fs.length mc] 27)
  have B7 := hide' (bt' B6.out b7)
  have Q7 := hide' (quad_below Q6.out b7)
  have P7 := hide' (quad_lit w6 (.string ⟨qm.toArray⟩) (.string ⟨qt.toArray⟩) (.int .i64 qk) (.slice ma fs.length mc) 27)
  have R7 := hide' (holdsB_mono R6.out b7)
  have F7 := hide' (holdsF_mono F6.out b7)
  have G7 := hide' (holdsF_mono G6.out b7)
  clear b7 R6 F6 G6 Q6
  obtain ⟨i0, i1, i2, i3, _⟩ := Q7.out
  obtain ⟨j0, j1, j2, j3, _⟩ := P7.out
  go_wp2_with fail
  refine (sameRq _ _ _ fs _ _ _ F7.out G7.out (by omega)).mono ?_
  rintro e w8 ⟨rfl, b8⟩
  have B8 := hide' (bt' B7.out b8)
  have R8 := hide' (holdsB_mono R7.out b8)
  clear b8 i0 i1 i2 i3 j0 j1 j2 j3
  go_wp2_with fail
  refine (spareC _ bs _ (holdsB_mono HV.out B8.out) (by omega)).mono ?_
  rintro e w9 ⟨u9, rfl, ho9⟩
  have B9 := hide' (bt' B8.out ho9.2)
  have R9 := hide' (holdsB_mono R8.out ho9.2)
  have G9 := hide' (holdsB_own ho9)
  clear ho9
  go_wp2_with fail
  refine (sameBe _ _ (bs ++ mks) _ R9.out G9.out (by rw [List.length_append, ml]; omega)).mono ?_
  rintro e w10 ⟨rfl, b10⟩
  have B10 := hide' (bt' B9.out b10)
  clear b10
  go_wp2_with fail
  go_ret
  exact ⟨rfl, B10.out⟩
end headRequests
end Go.Proofs.YtbbaajlabpjnlaaDoor
namespace Go.Proofs.YtbbaajlabpjnlaaDoor.headRequests
open Go.ChangeShapes Go.WideShapes Go.ChangeAt Go.RowKit
open Go.ChangeMaps (open_string shut_string)

theorem own : ownKnob Tryd.prog.godebug = none := by kernel_rfl
set_option maxRecDepth 100000 in
theorem contract (H : Type) (enc : TypeId × Value → H) (W : World) (base : Nat) (args : Array Value) (ds gs : List (DataW H)) (before : List MemPlace)
    (hval : ∀ (j : Nat) t v, Tryd.f3.params[j]? = some t → args[j]? = some v → Value.okWide Tryd.prog W .any base t v)
    (hW : DataW.Whole enc Tryd.prog Tryd.f3.params.toList Rows.headRequestsSpec.vars false W args.toList ds gs before) (hk0 : Rows.uptoSmall H (ds ++ gs) = true) (hL : laidMetH Tryd.prog Rows.headRequestsUptoRow.laid W) (hsh : W.ShapedOpen Tryd.prog) :
    Calls Tryd.prog 3 args W fun e W' => ∃ v, e = .returned v ∧ Rows.headRequestsSpec.post enc Tryd.prog Tryd.f3 false true false false W args v W' := by
  have hW' := hW
  obtain ⟨p, q, hA0, hV, rfl, hfz, hnd⟩ := hW
  have hA : DataW.TrodAll enc Tryd.prog W 0 (fun _ => true) true Tryd.f3.params.toList args.toList ds p := hA0
  rw [Tryd.params3] at hA hval
  have E : Env W := by
    have hl : laidMet Tryd.prog Rows.headRequestsUptoRow.laid W := by
      rw [MakeChecks.laidMetH_plain _ _ _ (by kernel_rfl)] at hL
      exact hL
    exact env_of hl hsh (List.mem_of_getElem? (i := 1) (by kernel_rfl)) (List.mem_of_getElem? (i := 0) (by kernel_rfl))
  clear hL hsh
  obtain ⟨v0, vs0, d0, ds0, p0, q0, hargs, rfl, rfl, h0, r0⟩ := trodAll_cons hA
  obtain ⟨rfl, rfl, rfl⟩ := trodAll_nil r0
  obtain rfl : args = #[v0] := by cases args; simp_all
  obtain ⟨rfl, rfl⟩ := trodVars_none hV
  have hk := of_decide_eq_true hk0
  simp only [List.append_nil, Rows.uptoBulkAll] at hk
  have lt0 : ∀ x ∈ p0, x.block < W.heap.size := by obtain ⟨m, hm⟩ := h0; exact DataW.trod_lt m _ _ _ hm
  obtain ⟨bs0, H0, K0, Z0⟩ := open_bytes (hval 0 22 v0 rfl rfl) h0
  clear Z0
  clear hA0
  refine (walk v0 bs0 W H0 (by omega) E).mono fun e W' ⟨he, bel⟩ => ?_
  subst he
  exact ⟨_, rfl, _, _, _, [], _, [], hW', trodAll_mk1 (shut_bool Tryd.underlying4 _), (trodAll_cons_mk (Below.trod laidOut (by kernel_rfl) (of_decide_eq_true (by kernel_rfl)) h0 bel lt0) trodAll_mk0), rfl, bel.frame _, fun h => by cases h⟩

/-- a world whose listed variables hold what their text lays -/
def laying (w : World) : World :=
  { w with heap := ((w.heap).modify 2 fun
      | .cells _ t frozen => .cells #[.int .u8 128, .int .u8 191, .int .u8 160, .int .u8 191, .int .u8 128, .int .u8 159, .int .u8 144, .int .u8 191, .int .u8 128, .int .u8 143, .int .u8 0, .int .u8 0, .int .u8 0, .int .u8 0, .int .u8 0, .int .u8 0, .int .u8 0, .int .u8 0, .int .u8 0, .int .u8 0, .int .u8 0, .int .u8 0, .int .u8 0, .int .u8 0, .int .u8 0, .int .u8 0, .int .u8 0, .int .u8 0, .int .u8 0, .int .u8 0, .int .u8 0, .int .u8 0] t frozen
      | o => o).modify 1 fun
      | .cells _ t frozen => .cells (Go.Pinned.utf8FirstZ.map fun (n : Nat) => Value.int .u8 (n : Int)).toArray t frozen
      | o => o }
theorem laid_met (os : Os) : laidMet Tryd.prog Rows.headRequestsUptoRow.laid ((laying (World.holding Tryd.prog os ⟨#[], #[], []⟩)).forCall (fun _ _ => 0) ⟨#[], #[.slice none 0 0], []⟩).memory :=
  laidMet_of_run' 8 (by kernel_rfl) (by kernel_rfl)
theorem reads (os : Os) {H : Type} (enc : TypeId × Value → H) : ∃ places, DataW.whole enc Tryd.prog ((laying (World.holding Tryd.prog os ⟨#[], #[], []⟩)).forCall (fun _ _ => 0) ⟨#[], #[.slice none 0 0], []⟩).memory Tryd.f3.params.toList Rows.headRequestsSpec.vars false #[Value.slice none 0 0].toList 8 = some ([.nil], [], places) :=
  ⟨[], by kernel_rfl⟩

set_option maxRecDepth 100000 in
theorem lifted (os : Os) (started : os.Started) (H : Type) (enc : TypeId × Value → H) (F : Stop.Interp) :
    ReturnsInHanded {} Tryd.checked os 3 .any ((Rows.OpenSpec.upto Rows.headRequestsSpec).preRow enc Tryd.prog Tryd.f3 Rows.headRequestsUptoRow.domain false Rows.headRequestsUptoRow.laid) (((Rows.OpenSpec.upto Rows.headRequestsSpec).at F).post enc Tryd.prog Tryd.f3 false true false false) := by
  obtain ⟨places, hx⟩ := reads os enc
  refine returnsInHanded_of_row (C := Tryd.checked) (s := Rows.OpenSpec.upto Rows.headRequestsSpec) own started (by kernel_rfl) Tryd.func3
    (witness_row_at (enc := enc) (C := Tryd.checked) false (laying (World.holding Tryd.prog os ⟨#[], #[], []⟩)) #[.slice none 0 0] rfl (by kernel_rfl) (by kernel_rfl) (by kernel_rfl)
      (OpenSpec.preRow_of_cond 8 hx (by kernel_rfl) (fun k hk => by cases hk; kernel_rfl) (by kernel_rfl) (laid_met os))) ?_
  intro W base args ds gs before hval hW _ hcond _ hL hsh _
  exact contract H enc W base args ds gs before hval hW (hcond _ rfl) hL hsh

theorem said : Rows.HeadRequestsUptoSaid :=
  OpenClaim.holds_of_cond 3 Tryd.f3 rfl rfl rfl rfl rfl rfl rfl ⟨rfl, rfl, rfl, rfl, rfl⟩ rfl rfl rfl rfl rfl (by kernel_rfl) Tryd.func3 (by kernel_rfl)
    (of_decide_eq_true (by kernel_rfl)) (by unfold Func.isWrapper; first | (rw [if_pos (by decide +kernel)]; kernel_rfl) | (rw [if_neg (by decide +kernel)]; exact ⟨rfl, rfl⟩))
    (fun os started H enc _ F => by rw [OpenClaim.pre_eq_preRow]; exact lifted os started H enc F)

theorem plain (f : FuncId) (fn : Func) (hf : Tryd.pinned.checked.prog.funcNamed Tryd.f3.name = some f) (hfn : Tryd.pinned.checked.prog.funcs[f]? = some fn) :
    false = Tryd.pinned.checked.prog.looks [] ∧ ∀ (j : Nat) t, fn.params[j]? = some t → Tryd.pinned.checked.prog.wantsStandIn t = false := by
  obtain rfl : f = 3 := Option.some.inj ((show Tryd.prog.funcNamed Tryd.f3.name = some 3 by kernel_rfl).symm.trans hf) |>.symm
  obtain rfl : fn = Tryd.f3 := (Option.some.inj (Tryd.func3.symm.trans hfn)).symm
  refine ⟨by kernel_rfl, fun j t ht => ?_⟩
  rw [Tryd.params3] at ht
  obtain rfl : t = 22 := by simpa using Array.mem_of_getElem? ht
  exact (show Tryd.prog.wantsStandIn 22 = false by kernel_rfl)
end Go.Proofs.YtbbaajlabpjnlaaDoor.headRequests
namespace Go.Proofs.YtbbaajlabpjnlaaDoor
theorem headRequests_holds : Rows.HeadRequestsUptoCardSaid :=
  Claim7.holds_tied_plain_at .later [] _ _ _ _ headRequests.said (fun _ h => by cases h) (by kernel_rfl) (fun _ h => by cases h) headRequestsUpto_row_tie rfl ⟨rfl, rfl⟩ (by kernel_rfl) rfl headRequests.plain (by kernel_rfl)
#print axioms headRequests_holds
end Go.Proofs.YtbbaajlabpjnlaaDoor
