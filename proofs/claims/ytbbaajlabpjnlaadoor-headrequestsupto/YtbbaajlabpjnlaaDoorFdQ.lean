/- The contract of Parse. -/
import Derived.Test.YtbbaajlabpjnlaaDoorFdB
namespace Go.Proofs.YtbbaajlabpjnlaaDoor
open Go.RowKit
def lenOf : Value → Nat
  | .slice _ n _ => n
  | _ => 0
/-- what bytes.ContainsAny at a line's two last bytes says -/
def CaC (line : List UInt8) (ao : Option Addr) (cap : Nat) (W : World) : Prop := Calls Tryd.prog 36 #[.slice ao line.length cap, .string ⟨#[13, 10]⟩] W fun e w' => e = .returned (.bool (line.any isEnd)) ∧ Below W.heap.size W w'
theorem conv_holdsB (w : World) (ao : Option Addr) (cap : Nat) (l : List UInt8) (h : HoldsB w (.slice ao l.length cap) l) :
    Sem.run Tryd.prog (convert 22 9 (.slice ao l.length cap)) w = .ok (.string ⟨l.toArray⟩) w := by
  obtain ⟨ao', cap', e, h0, hcp, hc⟩ := h
  simp only [Value.slice.injEq] at e
  obtain ⟨rfl, _, rfl⟩ := e
  by_cases hl : l = []
  · subst hl
    cases ao with
    | none => obtain rfl := h0 rfl; exact conv_nil w
    | some a => exact run_convert_bytes_back w 22 9 5 a cap [] Tryd.underlying22 Tryd.underlying5 Tryd.underlying9 (fun j hj => by simp at hj)
  · obtain ⟨b, off, rfl, _, hcell⟩ := hc hl
    rw [run_convert_bytes_back w 22 9 5 ⟨b, off, none⟩ cap l Tryd.underlying22 Tryd.underlying5 Tryd.underlying9 (fun j hj => by rw [Go.WideShapes.add_plain]; exact hcell j hj)]
theorem line_err (l : List UInt8) : (lineOf l).2 = 0 ∨ (lineOf l).2 = 40 ∨ (lineOf l).2 = 41 := by
  unfold lineOf
  split
  · exact .inr (.inr rfl)
  · split
    · exact .inr (.inl rfl)
    · split
      · exact .inl rfl
      · exact .inr (.inl rfl)
set_option maxRecDepth 20000 in
set_option maxHeartbeats 1000000 in
theorem parseTok (v : Value) (bs : List UInt8) (w : World) (hv : HoldsB w v bs) (M : MaxV w) (hs : bs.length < 4294967281)
    (cA : ∀ W, Below w.heap.size w W → ∀ ao cap (line : List UInt8), (∀ c ∈ line, c ∈ bs) → line.length ≤ bs.length → HoldsB W (.slice ao line.length cap) line → CaC line ao cap W)
    (cI : ∀ W, Below w.heap.size w W → ∀ s : ByteArray, (∀ c ∈ s.data.toList, c ∈ bs) → s.size ≤ bs.length → IdxC s W) :
    Calls Tryd.prog 16 #[v] w fun e w' => ∃ lv, e = .returned (.tuple #[lv, .int .i64 (parseOf bs).2]) ∧ OwnF w lv (parseOf bs).1 w' := by
  have HV := hide' hv
  have MV := hide' M
  have CA := hide' cA
  have CI := hide' cI
  clear hv M cA cI
  obtain ⟨ao0, cap0, hv0, _⟩ := HV.out
  rw [hv0] at HV ⊢
  clear hv0
  go_enter Tryd.func16, Tryd.ntmps16
  go_wp2_with fail
  go_loopw [0, 4] (fun bv lv wr => ∃ (rest : List UInt8) (acc : FL) (ao : Option Addr) (cap : Nat), bv = .slice ao rest.length cap ∧ Hid (HoldsB w (.slice ao rest.length cap) rest) ∧ Hid (parseG rest acc = parseOf bs) ∧ acc.length ≤ 100 ∧ rest.length ≤ bs.length ∧ Hid (∀ c ∈ rest, c ∈ bs) ∧ OwnF w lv acc wr) (fun bv _ _ => lenOf bv)
  case atStart => exact ⟨bs, [], ao0, cap0, rfl, HV, rfl, by simp, Nat.le_refl _, fun c h => h, ownF_nil _ _ (Below.refl _ _)⟩
  case round =>
    obtain ⟨rest, acc, ao, cap, rfl, HB, HP, hacc, hrl, HM, ho⟩ := hrel
    by_cases hr0 : rest = []
    · subst hr0
      rw [parse_nil] at HP
      have P2 : Hid ((parseOf bs).2 = 0) := by unfold Hid; rw [← HP.out]
      have P1 : Hid ((parseOf bs).1 = acc) := by unfold Hid; rw [← HP.out]
      go_wp2_with fail
      go_ret2
      rw [P2.out, P1.out]
      exact ⟨_, rfl, ho⟩
    · have hpos : 0 < rest.length := by cases rest with | nil => exact absurd rfl hr0 | cons _ _ => simp
      have hB := holdsB_mono HB.out ho.2
      have kc := mark2 wr
      have cC := hide' (cutB ao cap rest wr hB (maxV_below MV.out ho.2) (by omega))
      cases hst : stepOf rest with
      | none =>
        have HPn := hide' (HP.out.symm.trans (parse_none rest acc hr0 hst))
        have P2 : Hid ((parseOf bs).2 = 40) := by unfold Hid; rw [HPn.out]
        have P1 : Hid ((parseOf bs).1 = []) := by unfold Hid; rw [HPn.out]
        rcases (step_spec rest).2 hst with hi | ⟨i, hi, hany⟩
        · rw [hi] at cC
          unfold Lib.cutV at cC
          rw [if_neg (by decide)] at cC
          clear hi hst hB
          go_wp2_with fail
          refine cC.out.mono ?_
          clear kc
          rintro e w1 ⟨rfl, b1⟩
          have B1 := hide' (bt' ho.2 b1)
          clear b1 ho
          go_wp2_with fail
          go_ret2
          rw [P2.out, P1.out]
          exact ⟨_, rfl, ownF_nil _ _ B1.out⟩
        · have hroom := Lib.index_room rest [13, 10] (by rw [hi]; omega)
          rw [hi] at hroom
          simp at hroom
          have hip : i ≤ rest.length := by omega
          have htl : (rest.take i).length = i := by rw [List.length_take]; omega
          have KA := hide' (fun W hb (hB2 : HoldsB W (.slice ao (rest.take i).length cap) (rest.take i)) => CA.out W hb ao cap (rest.take i) (fun c hc => HM.out c (List.mem_of_mem_take hc)) (by omega) hB2)
          have HT := hide' (holdsB_pre HB.out i hip)
          unfold CaC at KA
          rw [hany, htl] at KA
          rw [hi] at cC
          unfold Lib.cutV at cC
          rw [if_pos (by omega), Int.toNat_natCast] at cC
          obtain ⟨vb, hvb⟩ : ∃ vb, vb = Lib.fromV ao rest.length cap (i + 2) := ⟨_, rfl⟩
          rw [← hvb] at cC
          clear hi hst hB hvb hany htl hroom
          go_wp2_with fail
          refine cC.out.mono ?_
          clear kc
          rintro e w1 ⟨rfl, b1⟩
          have B1 := hide' (bt' ho.2 b1)
          clear b1 ho
          go_wp2_with fail
          refine (KA.out _ B1.out (holdsB_mono HT.out B1.out)).mono ?_
          rintro e w2 ⟨rfl, b2⟩
          have B2 := hide' (bt' B1.out b2)
          clear b2 B1
          go_wp2_with fail
          go_ret2
          rw [P2.out, P1.out]
          exact ⟨_, rfl, ownF_nil _ _ B2.out⟩
      | some p =>
        obtain ⟨l, r⟩ := p
        obtain ⟨hi, hany, happ⟩ := (step_spec rest).1 l r hst
        have hlen := step_len hst
        have htake : rest.take l.length = l := by rw [happ]; simp
        have hdrop : rest.drop (l.length + 2) = r := by rw [happ, ← List.drop_drop]; simp
        have HT := holdsB_pre HB.out l.length (by omega)
        rw [htake] at HT
        have HS := holdsB_suf HB.out (l.length + 2) (by omega)
        rw [hdrop] at HS
        have hlm : ∀ c ∈ l, c ∈ bs := fun c hc => HM.out c (by rw [happ]; simp [hc])
        have HMr : Hid (∀ c ∈ r, c ∈ bs) := fun c hc => HM.out c (by rw [happ]; simp [hc])
        have KA := hide' (fun W hb (hB2 : HoldsB W (.slice ao l.length cap) l) => CA.out W hb ao cap l hlm (by omega) hB2)
        unfold CaC at KA
        rw [hany] at KA
        have KI := hide' (fun W (hb : Below w.heap.size w W) => parseLineTok ⟨l.toArray⟩ (by rw [size_l]; omega) W (maxV_below MV.out hb) (fun W' hb' => CI.out W' (bt' hb hb') ⟨l.toArray⟩ (by simpa using hlm) (by rw [size_l]; omega)))
        simp only at KI
        rw [hi] at cC
        unfold Lib.cutV at cC
        rw [if_pos (by omega), Int.toNat_natCast] at cC
        obtain ⟨vb, hvb⟩ : ∃ vb, vb = Lib.fromV ao rest.length cap (l.length + 2) := ⟨_, rfl⟩
        rw [← hvb] at cC HS
        have HT2 := hide' HT
        have HS2 := hide' HS
        have CV := hide' (fun W (hb : Below w.heap.size w W) => conv_holdsB W ao cap l (holdsB_mono HT hb))
        have hpb := parse_bad rest l r acc hst
        have hpm := parse_many rest l r acc hst
        have hpn := parse_next rest l r acc hst
        unfold lineV at KI
        have LL := line_len l
        obtain ⟨x, hx⟩ : ∃ x, x = (lineOf l).1.1 := ⟨_, rfl⟩
        obtain ⟨y, hy⟩ : ∃ y, y = (lineOf l).1.2 := ⟨_, rfl⟩
        obtain ⟨ee, hee⟩ : ∃ ee, ee = (lineOf l).2 := ⟨_, rfl⟩
        rw [← hx, ← hy, ← hee] at KI
        have hxy : (lineOf l).1 = (x, y) := by rw [hx, hy]
        rw [← hee] at hpb hpm hpn
        by_cases h0 : ee = 0
        · by_cases h100 : acc.length = 100
          · have HPn := hide' (HP.out.symm.trans (hpm h0 (by omega)))
            have P2 : Hid ((parseOf bs).2 = 42) := by unfold Hid; rw [HPn.out]
            have P1 : Hid ((parseOf bs).1 = []) := by unfold Hid; rw [HPn.out]
            obtain ⟨aa, ca, b9, o9, hlv, _⟩ := holdsF_parts (holdsF_own ho)
            subst h0
            have e100 : ((acc.length : Int) == 100) = true := by rw [h100]; rfl
            clear hpb hpm hpn hi hany happ htake hdrop hlen hst HT HS LL hx hy hee hxy hlm hB h100 hvb
            rw [hlv] at ho ⊢
            clear hlv
            go_wp2_with fail
            refine cC.out.mono ?_
            rintro e w1 ⟨rfl, b1⟩
            have B1 := hide' (bt' ho.2 b1)
            have O1 := hide' (ownF_mono ho b1)
            clear b1 ho kc
            go_wp2_with fail
            refine (KA.out _ B1.out (holdsB_mono HT2.out B1.out)).mono ?_
            rintro e w2 ⟨rfl, b2⟩
            have B2 := hide' (bt' B1.out b2)
            have O2 := hide' (ownF_mono O1.out b2)
            have cv := CV.out w2 B2.out
            clear b2 B1 O1
            go_wp2_with fail
            refine (KI.out _ B2.out).mono ?_
            rintro e w3 ⟨rfl, b3⟩
            have B3 := hide' (bt' B2.out b3)
            have O3 := hide' (ownF_mono O2.out b3)
            clear b3 B2 O2 cv
            go_wp2_with fail
            go_ret2
            rw [P2.out, P1.out]
            exact ⟨_, rfl, ownF_nil _ _ (B3.out.alloc B3.out.size _)⟩
          · have HPn := hide' ((hpn h0 (by omega)).symm.trans HP.out)
            rw [hxy] at HPn
            obtain ⟨aa, ca, b9, o9, hlv, _⟩ := holdsF_parts (holdsF_own ho)
            subst h0
            have e100 : ((acc.length : Int) == 100) = false := by simp; omega
            obtain ⟨a2, c2, hvb2, _⟩ := HS2.out
            have HL := hide' hlen
            clear hpb hpm hpn hi hany happ htake hdrop hst HT HS LL hx hy hee hxy hlm hB hvb hlen
            rw [hvb2] at cC HS2
            clear hvb2
            rw [hlv] at ho ⊢
            clear hlv
            go_wp2_with fail
            refine cC.out.mono ?_
            rintro e w1 ⟨rfl, b1⟩
            have B1 := hide' (bt' ho.2 b1)
            have O1 := hide' (ownF_mono ho b1)
            clear b1 ho kc
            go_wp2_with fail
            refine (KA.out _ B1.out (holdsB_mono HT2.out B1.out)).mono ?_
            rintro e w2 ⟨rfl, b2⟩
            have B2 := hide' (bt' B1.out b2)
            have O2 := hide' (ownF_mono O1.out b2)
            have cv := CV.out w2 B2.out
            clear b2 B1 O1
            go_wp2_with fail
            refine (KI.out _ B2.out).mono ?_
            rintro e w3 ⟨rfl, b3⟩
            have B3 := hide' (bt' B2.out b3)
            have O3 := hide' (ownF_mono O2.out b3)
            clear b3 B2 O2 cv
            have O4 := hide' (ownF_mono O3.out (below_alloc' w3 (.cells #[.string ⟨x.toArray⟩, .string ⟨y.toArray⟩] 53)))
            go_wp2_with (at_builtin; refine appF rfl (.tmp 39) (.tmp 41) rfl w _ _ rfl O4.out (x, y) rfl rfl rfl (by simp) (by omega) ?_; intro v5 w5 ho5)
            go_roundw
            case rel => exact ⟨r, acc ++ [(x, y)], a2, c2, rfl, HS2, HPn, by simp; omega, by have := HL.out; omega, HMr, ho5⟩
            case measure => have := HL.out; simp [lenOf]; omega
        · have HPn := hide' (HP.out.symm.trans (hpb h0))
          have P2 : Hid ((parseOf bs).2 = ee) := by unfold Hid; rw [HPn.out]
          have P1 : Hid ((parseOf bs).1 = []) := by unfold Hid; rw [HPn.out]
          have ene : (ee != 0) = true := by simpa using h0
          clear hpb hpm hpn hi hany happ htake hdrop hlen hst HT HS LL hx hy hee hxy hlm hB h0 hvb
          go_wp2_with fail
          refine cC.out.mono ?_
          rintro e w1 ⟨rfl, b1⟩
          have B1 := hide' (bt' ho.2 b1)
          have O1 := hide' (ownF_mono ho b1)
          clear b1 ho kc
          go_wp2_with fail
          refine (KA.out _ B1.out (holdsB_mono HT2.out B1.out)).mono ?_
          rintro e w2 ⟨rfl, b2⟩
          have B2 := hide' (bt' B1.out b2)
          have O2 := hide' (ownF_mono O1.out b2)
          have cv := CV.out w2 B2.out
          clear b2 B1 O1
          go_wp2_with fail
          refine (KI.out _ B2.out).mono ?_
          rintro e w3 ⟨rfl, b3⟩
          have B3 := hide' (bt' B2.out b3)
          have O3 := hide' (ownF_mono O2.out b3)
          clear b3 B2 O2 cv
          go_wp2_with fail
          go_ret2
          rw [P2.out, P1.out]
          exact ⟨_, rfl, ownF_nil _ _ (B3.out.alloc B3.out.size _)⟩
end Go.Proofs.YtbbaajlabpjnlaaDoor
