/- The contracts of Sync and Append. -/
import Derived.Test.YtaklfiipkjfjdaaDkN
import Derived.Test.YtaklfiipkjfjdaaBcl
namespace Go.Proofs.Ytaklfiipkjfjdaa
open Go.RowKit Go.Maps
theorem file_slice {o : Ow} {W : World} {b i : Nat} {bs : List UInt8} {sf : Nat} (h : FileAt o W b i bs sf) : ∃ ao cap, Blk b W [.int .i64 (i : Int), .slice ao bs.length cap, .int .i64 (sf : Int)] ∧ W.ownsRow 0 5 1 (.slice ao bs.length cap) bs.length (bs.map B) ∧ o b = some (.file i) ∧ ∀ rb, (Value.slice ao bs.length cap).ownBlock = some rb → o rb = some (.row i) := by
  obtain ⟨rv, h1, h2, h3, h4⟩ := h
  rcases h2.2 with ⟨rfl, hn⟩ | ⟨x, cap, cur, rfl, _⟩
  · rw [hn] at h2 ⊢; exact ⟨none, 0, h1, h2, h3, h4⟩
  · exact ⟨_, _, h1, h2, h3, h4⟩
theorem row_holds0 {W : World} {base : Nat} {v : Value} {bs : List UInt8} (h : W.ownsRow base 5 1 v bs.length (bs.map B)) : HoldsB W v bs := by
  obtain ⟨hl, h1 | ⟨g, cap, cur, rfl, hg, hh, hr⟩⟩ := h
  · obtain ⟨rfl, hn⟩ := h1
    obtain rfl : bs = [] := List.eq_nil_of_length_eq_zero hn
    exact ⟨none, 0, rfl, fun _ => rfl, Nat.le_refl _, fun h => absurd rfl h⟩
  · have h : W.ownsRow base 5 1 (.slice (some ⟨g, 0, none⟩) bs.length cap) bs.length (bs.map B) := ⟨hl, .inr ⟨g, cap, cur, rfl, hg, hh, hr⟩⟩
    refine ⟨_, cap, rfl, fun e => (by cases e), hr.1, fun _ => ⟨g, 0, rfl, (h.lt g rfl).2, fun j hj => ?_⟩⟩
    rw [Nat.zero_add, h.cellAt j (by omega)]
    simp [hj]
/-- what a step of a disk answers and leaves -/
def StepPost (o : Ow) (g : Nat) (s : Dk) (op : DOp) (W : World) (e : Ending) (W' : World) : Prop := e = .returned (.int .i64 (s.step op).2) ∧ ∃ o', Dsk o' g (s.step op).1 W' ∧ Grow o W o' W'
theorem sync_spec (s : Dk) (nm to : Nm) (d : List UInt8) (h : stepE s [nm] = 0) : (atN s.now nm = none → s.step ⟨3, nm, to, d⟩ = (cntS s, 90)) ∧ ∀ k, atN s.now nm = some k → s.step ⟨3, nm, to, d⟩ = ({ cntS s with firm := s.firm.set k (s.data.getD k []).length }, 0) := by
  obtain ⟨h1, h2⟩ := step_z s ⟨3, nm, to, d⟩ h
  refine ⟨fun e => ?_, fun k e => ?_⟩
  · rw [h2, e, h1]; rfl
  · rw [h2, e, h1]; rfl
set_option maxRecDepth 20000 in
set_option maxHeartbeats 2000000 in
theorem syncC {o : Ow} {g : Nat} {s : Dk} {W : World} (h : Dsk o g s W) (nm : ByteArray) (to : Nm) (d : List UInt8) (hs : nm.size ≤ 140737488351232) (hB : Bd 900000000 s) :
    Calls Try.prog 23 #[.pointer (some ⟨g, 0, none⟩), .string nm] W fun e W' => StepPost o g s ⟨3, nm.data.toList, to, d⟩ W e W' := by
  obtain ⟨m0, m1, m2, pv, fb, cs, v⟩ := h
  have CO := hide' (stepOnC v W (.slice none 0 0) [] (ownS_nil W W (Below.refl _ _)) v.lt nm hs (fun n hn => by cases hn) (by simp) (by have := hB.1; omega))
  have V := hide' v
  by_cases hE : stepE s [nm.data.toList] = 0
  · obtain ⟨sp1, sp2⟩ := sync_spec s nm.data.toList to d hE
    cases ha : atN s.now nm.data.toList with
    | none =>
      have R : Hid (onV fb s.now nm.data.toList (stepE s ([] ++ [nm.data.toList])) = .tuple #[.pointer none, .int .i64 90]) := by
        unfold Hid onV; rw [List.nil_append, hE, if_neg (by decide)]; unfold findV; rw [ha]
      rw [R.out] at CO
      have SP := hide' (sp1 ha)
      clear v ha hE sp1 sp2
      go_enter Try.func23, Try.ntmps23
      go_wp2_with (go_at_call 32; refine CO.out.mono ?_; rintro e w1 ⟨rfl, h1, h2⟩; have H1 := hide' h1; have H2 := hide' h2; clear h1 h2)
      go_ret
      exact ⟨by rw [SP.out]; rfl, o, by rw [SP.out]; exact ⟨_, _, _, _, _, _, H1.out⟩, grow_g (off_low H2.out (Nat.le_refl _)) V.out.og⟩
    | some k =>
      have R : Hid (onV fb s.now nm.data.toList (stepE s ([] ++ [nm.data.toList])) = .tuple #[.pointer (some ⟨fb k, 0, none⟩), .int .i64 0]) := by
        unfold Hid onV; rw [List.nil_append, hE, if_neg (by decide)]; unfold findV; rw [ha]
      rw [R.out] at CO
      have SP := hide' (sp2 k ha)
      have hk := (v.wf.now.2 _ (at_some ha)).1
      have hcn : (cntS s).data = s.data := by unfold cntS; split <;> rfl
      have hcf : (cntS s).firm = s.firm := by unfold cntS; split <;> rfl
      have hwf := wf_step v.wf ⟨3, nm.data.toList, to, d⟩
      rw [SP.out] at hwf
      have HW := hide' hwf
      have HK := hide' hk
      have HN := hide' hcn
      have HF := hide' hcf
      clear v ha hE sp1 sp2 hwf hk hcn hcf
      go_enter Try.func23, Try.ntmps23
      go_wp2_with fail
      refine CO.out.mono ?_
      rintro e w1 ⟨rfl, h1, h2⟩
      have fa := h1.files k (by rw [HN.out]; exact HK.out)
      rw [HN.out, HF.out] at fa
      obtain ⟨ao, ca, fB, fR, fo, fw⟩ := file_slice fa
      obtain ⟨⟨c0, c1, c2⟩, ⟨f0, f1, f2⟩⟩ := cells_3 fB
      have FB := hide' fB
      have FR := hide' fR
      have FO := hide' fo
      have FW := hide' fw
      have H1 := hide' h1
      have H2 := hide' h2
      have hlb := hB.2.2.2.2.2 k
      clear h1 h2 fa fB fR fo fw hB
      obtain ⟨len, hlen⟩ : ∃ len, len = (s.data.getD k []).length := ⟨_, rfl⟩
      have HL := hide' hlen
      rw [← hlen] at c1 hlb
      clear hlen
      go_wp2_with fail
      go_ret
      refine ⟨by rw [SP.out]; rfl, o, ?_, ?_⟩
      · rw [SP.out]
        have sp : Same o (fun r => r ≠ .file k ∧ r ≠ .row k) w1 (w1.setCell ⟨fb k, 2, none⟩ (.int .i64 (len : Int))) := (same_poke FO.out _).mono (fun r h => h.1)
        have fb' := cells_set FB.out (j := 2) (by simp) (.int .i64 (len : Int))
        have fr' := row_same (r := .row k) FR.out (same_poke (W := w1) (b := fb k) (j := 2) (o := o) FO.out (.int .i64 (len : Int))) FW.out (by simp)
        have q := dkV_file H1.out k (d' := s.data.getD k []) (f' := len) (fun _ _ e => e) sp ⟨_, fb', fr', FO.out, FW.out⟩ (fun x hx => Nat.lt_of_lt_of_le (H1.out.lt x hx) sp.size) (by
          rw [HN.out, HF.out, set_self, HL.out]
          have := HW.out
          have e : ({ cntS s with firm := s.firm.set k (s.data.getD k []).length } : Dk) = { cntS s with data := s.data, firm := s.firm.set k (s.data.getD k []).length } := by rw [← HN.out]
          rw [← e]
          exact this)
        rw [HN.out, HF.out, set_self, HL.out] at q
        have e : ({ cntS s with firm := s.firm.set k (s.data.getD k []).length } : Dk) = { cntS s with data := s.data, firm := s.firm.set k (s.data.getD k []).length } := by rw [← HN.out]
        simp only
        rw [e]
        rw [← HL.out] at q ⊢
        exact ⟨_, _, _, _, _, _, q⟩
      · have gr := grow_g (off_low H2.out (Nat.le_refl _)) V.out.og
        exact gr.trans ⟨off_poke (S := o.has) ⟨fb k, 2, none⟩ (has_of FO.out) _, fun _ _ e => e, fun _ e => .inl e⟩
  · have R : Hid (onV fb s.now nm.data.toList (stepE s ([] ++ [nm.data.toList])) = .tuple #[.pointer none, .int .i64 (stepE s [nm.data.toList])]) := by
      unfold Hid onV; rw [List.nil_append, if_pos hE]
    have SP : Hid (s.step ⟨3, nm.data.toList, to, d⟩ = (cntS s, stepE s [nm.data.toList])) := step_e s ⟨3, nm.data.toList, to, d⟩ hE
    rw [R.out] at CO
    generalize stepE s [nm.data.toList] = E at hE CO SP
    have q : (E != 0) = true := by simpa using hE
    clear v hE
    go_enter Try.func23, Try.ntmps23
    go_wp2_with (go_at_call 32; refine CO.out.mono ?_; rintro e w1 ⟨rfl, h1, h2⟩; have H1 := hide' h1; have H2 := hide' h2; clear h1 h2)
    go_ret
    exact ⟨by rw [SP.out]; rfl, o, by rw [SP.out]; exact ⟨_, _, _, _, _, _, H1.out⟩, grow_g (off_low H2.out (Nat.le_refl _)) V.out.og⟩
end Go.Proofs.Ytaklfiipkjfjdaa
