/- The contracts of strconv.ParseUint at base sixteen and of sizeOf. -/
import Derived.Test.YtobkmepamgdccaaGreatDoorChS
namespace Go.Proofs.YtobkmepamgdccaaGreatDoor
open Go.RowKit
theorem innerH (l : List UInt8) (hl : l.length ≤ 281474976710656) (w : World) :
    Calls Tryz.prog 66 #[.string ⟨l.toArray⟩, .int .i64 16, .int .i64 64] w fun e w' => PhR l e ∧ Below w.heap.size w w' := by
  by_cases h : l = []
  · subst h
    refine (phEmpty w).mono ?_
    rintro e w' ⟨rfl, rfl⟩
    exact ⟨.inr (.inl ⟨rfl, .inr rfl⟩), Below.refl _ _⟩
  · have hs : (⟨l.toArray⟩ : ByteArray).size = l.length := size_l l
    have h0 : ¬ (⟨l.toArray⟩ : ByteArray).size = 0 := by rw [hs]; intro e; exact h (List.eq_nil_of_length_eq_zero e)
    refine (phSome ⟨l.toArray⟩ h0 (by rw [hs]; omega) w).mono ?_
    rintro e w' ⟨hr, rfl⟩
    exact ⟨hr, Lib.bytesWorld_below _ _ _⟩
/-- what strconv.ParseUint tells of bytes -/
def PhO (l : List UInt8) (e : Ending) : Prop := ∃ (a : Int) (ev : Value), e = .returned (.tuple #[.int .u64 a, ev]) ∧ 0 ≤ a ∧ a ≤ 18446744073709551615 ∧
  ((ev = .nilIface ∧ l.all isHex = true ∧ 0 < l.length ∧ (l.length ≤ 15 → a = (hexS l : Int))) ∨
   ((∃ N, ev = .iface 98 (.pointer (some ⟨N, 0, none⟩))) ∧ (decide (0 < l.length) && (l.all isHex && decide (l.length ≤ 8))) = false))
set_option maxHeartbeats 2000000 in
set_option maxRecDepth 20000 in
theorem parseH (l : List UInt8) (hl : l.length ≤ 281474976710656) (w : World) (E : Er w) :
    Calls Tryz.prog 53 #[.string ⟨l.toArray⟩, .int .i64 16, .int .i64 64] w fun e w' => PhO l e ∧ Below w.heap.size w w' := by
  have C := hide' (innerH l hl w)
  have EV := hide' E
  have hs : (⟨l.toArray⟩ : ByteArray).size ≤ 281474976710656 := by rw [size_l]; exact hl
  clear E hl
  go_enter Tryz.func53, Tryz.ntmps53
  go_wp2_with fail
  refine C.out.mono ?_
  rintro e w1 ⟨hr, b1⟩
  have B1 := hide' b1
  have E1 := hide' (er_below EV.out b1)
  clear b1 C EV
  rcases hr with ⟨a, rfl, a0, a1, h1, h2, h3⟩ | ⟨rfl, h1⟩ | ⟨rfl, h1⟩
  · have H1 := hide' h1
    have H2 := hide' h2
    have H3 := hide' h3
    clear h1 h2 h3
    go_wp2_with fail
    go_ret2
    exact ⟨⟨a, .nilIface, rfl, a0, a1, .inl ⟨rfl, H1.out, H2.out, H3.out⟩⟩, B1.out⟩
  · obtain ⟨⟨tp, p, hv⟩, _⟩ := E1.out
    have K := hide' (Any.strconv_toError_syntax Tryz.laysC245 ⟨#[80, 97, 114, 115, 101, 85, 105, 110, 116]⟩ ⟨l.toArray⟩ 16 64 (.iface tp p) w1 hs hv (.inr ⟨tp, p, rfl⟩))
    have H1 : Hid ((decide (0 < l.length) && (l.all isHex && decide (l.length ≤ 8))) = false) := by
      unfold Hid
      rcases h1 with h | h
      · rw [h]; simp
      · rw [decide_eq_false (by omega : ¬ 0 < l.length)]; rfl
    clear h1 hv
    go_wp2_with fail
    refine K.out.mono ?_
    rintro e w2 ⟨N, rfl, _, _, b2⟩
    have B2 := hide' (bt' B1.out b2)
    clear b2 K
    go_wp2_with fail
    go_ret2
    exact ⟨⟨0, _, rfl, by omega, by omega, .inr ⟨⟨N, rfl⟩, H1.out⟩⟩, B2.out⟩
  · obtain ⟨_, tp, p, hv⟩ := E1.out
    have K := hide' (Any.strconv_toError_range Tryz.laysC245 ⟨#[80, 97, 114, 115, 101, 85, 105, 110, 116]⟩ ⟨l.toArray⟩ 16 64 (.iface tp p) w1 hs hv (.inr ⟨tp, p, rfl⟩))
    have H1 : Hid ((decide (0 < l.length) && (l.all isHex && decide (l.length ≤ 8))) = false) := by
      unfold Hid
      rw [decide_eq_false (by omega : ¬ l.length ≤ 8)]; simp
    clear h1 hv
    go_wp2_with fail
    refine K.out.mono ?_
    rintro e w2 ⟨N, rfl, _, _, b2⟩
    have B2 := hide' (bt' B1.out b2)
    clear b2 K
    go_wp2_with fail
    go_ret2
    exact ⟨⟨18446744073709551615, _, rfl, by omega, by omega, .inr ⟨⟨N, rfl⟩, H1.out⟩⟩, B2.out⟩
theorem cutSemi (s : ByteArray) (hs : s.size < 4294967281) (w : World) (M : MaxV w) :
    Calls Tryz.prog 52 #[.string s, .string ⟨#[59]⟩] w fun e w' => ∃ b, e = .returned (.tuple #[.string ⟨(digL s.data.toList).toArray⟩, .string ⟨(extL s.data.toList).toArray⟩, .bool b]) ∧ Below w.heap.size w w' := by
  obtain ⟨m, hm⟩ := M
  refine (Any.strings_Cut Tryz.lays145 s ⟨#[59]⟩ m w hs hm).mono ?_
  rintro e w' ⟨rfl, n, rfl⟩
  refine ⟨! s.data.toList.all noSemi, ?_, below_drewN w n⟩
  rw [show (⟨#[59]⟩ : ByteArray).data.toList = [59] from rfl, cut_one noSemi 59 noSemi_iff]
  rfl
set_option maxHeartbeats 2000000 in
set_option maxRecDepth 20000 in
theorem sizeOfC (l : List UInt8) (hl : l.length ≤ 4096) (w : World) (E : Er w) (M : MaxV w) :
    Calls Tryz.prog 39 #[.string ⟨l.toArray⟩] w fun e w' => ∃ x : Int, e = .returned (.tuple #[.int .i64 x, .bool (decide (0 ≤ sizeC l))]) ∧ Hid (0 ≤ sizeC l → x = sizeC l) ∧ Below w.heap.size w w' := by
  have cC := cutSemi ⟨l.toArray⟩ (by rw [size_l]; omega) w M
  rw [show (⟨l.toArray⟩ : ByteArray).data.toList = l from by simp] at cC
  have GS := size_is l
  have GX : Hid (goodZ l = true → sizeC l = (hexS (digL l) : Int)) := size_good l
  have d1 := dig_len l
  have d2 := ext_len l
  have GD : goodZ l = (decide (0 < (digL l).length) && ((digL l).all isHex && (decide ((digL l).length ≤ 8) && (extL l).all txt))) := rfl
  have ZI : Hid (0 ≤ sizeC l → goodZ l = true) := fun h => by rw [GS]; exact decide_eq_true h
  rw [← GS]
  clear GS
  generalize goodZ l = gs at GD GX ZI ⊢
  generalize digL l = D at cC GX d1 GD
  generalize extL l = X at cC d2 GD
  generalize sizeC l = sz at GX ZI ⊢
  generalize (⟨l.toArray⟩ : ByteArray) = t at cC ⊢
  have HD := hide' GD
  have C := hide' cC
  have zX : (⟨X.toArray⟩ : ByteArray).size ≤ 140737488351232 := by rw [size_l]; omega
  have cP := hide' (fun W (hE : Er W) => parseH D (by omega) W hE)
  have cT := fun W => isTextC ⟨X.toArray⟩ W zX
  rw [show (⟨X.toArray⟩ : ByteArray).data.toList = X from by simp] at cT
  have CT := hide' cT
  have EV := hide' E
  have hz : (⟨D.toArray⟩ : ByteArray).size = D.length := size_l D
  clear cC GD d2 E M zX cT
  generalize hd : (⟨D.toArray⟩ : ByteArray) = dt at C cP hz
  clear hd
  generalize hx : (⟨X.toArray⟩ : ByteArray) = xt at C CT
  clear hx
  go_enter Tryz.func39, Tryz.ntmps39
  go_wp2_with fail
  refine C.out.mono ?_
  rintro e w1 ⟨bb, rfl, b1⟩
  have B1 := hide' b1
  have E1 := hide' (er_below EV.out b1)
  clear b1 C EV
  go_wp2_with fail
  refine (cP.out _ E1.out).mono ?_
  rintro e w2 ⟨⟨a, ev, rfl, a0, a1, hc⟩, b2⟩
  have B2 := hide' (bt' B1.out b2)
  clear b2 cP E1 B1
  have k0 : (0 : Int) ≤ (D.length : Int) := by omega
  have HZ := hide' hz
  rcases hc with ⟨rfl, h1, h2, h3⟩ | ⟨⟨N, rfl⟩, h⟩
  · by_cases h8 : D.length ≤ 8
    · have ea := h3 (by omega)
      have hlt := hexS_lt D
      have hp : 16 ^ D.length ≤ 16 ^ 8 := Nat.pow_le_pow_right (by decide) h8
      have h16 : (16 : Nat) ^ 8 = 4294967296 := by decide
      have al : a < 4294967296 := by omega
      have EA := hide' ea
      have GE : Hid (gs = X.all txt) := by unfold Hid; rw [HD.out, h1, decide_eq_true h2, decide_eq_true h8]; simp
      have z8 : (dt.size : Int) ≤ 8 := by rw [hz]; omega
      have z8' : decide ((dt.size : Int) ≤ 8) = true := decide_eq_true z8
      clear ea hlt hp h16 h1 h2 h3 h8 HD hz z8
      rw [GE.out] at GX ZI
      generalize X.all txt = xb at CT GX ZI GE
      go_wp2_with (go_at_call 54; refine (CT.out _).mono ?_; rintro e w3 ⟨rfl, rfl⟩)
      go_ret2
      rw [GE.out]
      exact ⟨a, by first | rfl | simp, fun h => by rw [EA.out, GX.out (ZI.out h)], B2.out⟩
    · have GE : Hid (gs = false) := by unfold Hid; rw [HD.out, decide_eq_false h8]; simp
      have z8' : decide ((dt.size : Int) ≤ 8) = false := decide_eq_false (by rw [hz]; omega)
      have z8 : ¬ (dt.size : Int) ≤ 8 := by rw [hz]; omega
      clear h1 h2 h3 h8 HD hz
      rw [GE.out] at GX ZI
      go_wp2_with fail
      go_ret2
      rw [GE.out]
      exact ⟨_, rfl, fun h => absurd (ZI.out h) (by simp), B2.out⟩
  · have GE : Hid (gs = false) := by
      unfold Hid
      rw [HD.out]
      cases q1 : decide (0 < D.length) with
      | false => rfl
      | true =>
        cases q2 : D.all isHex with
        | false => rfl
        | true =>
          rw [q1, q2] at h
          have h' : decide (D.length ≤ 8) = false := by simpa using h
          rw [h']; rfl
    clear h HD hz
    rw [GE.out] at GX ZI
    go_wp2_with fail
    go_ret2
    rw [GE.out]
    exact ⟨_, rfl, fun h => absurd (ZI.out h) (by simp), B2.out⟩
end Go.Proofs.YtobkmepamgdccaaGreatDoor
