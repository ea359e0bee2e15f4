/- The document's version. -/
import Derived.Test.YtbbaajlabpjnlabGreatDoorHdK
import Derived.Test.YtbbaajlabpjnlabGreatDoorFdR
namespace Go.Proofs.YtbbaajlabpjnlabGreatDoor
open Go.RowKit
def verM (l : List UInt8) : Int × Int := if isVer l = true then minOf l else (0, 50)
theorem ext5 (s : ByteArray) : s.extract 0 5 = ⟨(s.data.toList.take 5).toArray⟩ := by
  have : (s.extract 0 5).data.toList = s.data.toList.take 5 := by simp [ByteArray.data_extract, List.extract_eq_take_drop]
  rw [← this]
theorem ver_eight (s : ByteArray) (h : s.size = 8) (z5 : 5 < s.size) (z6 : 6 < s.size) (z7 : 7 < s.size) : isVer s.data.toList = (decide (s.data.toList.take 5 = P5) && (digI ((s[5]'z5).toNat : Int) && (decide (((s[6]'z6).toNat : Int) = 46) && digI ((s[7]'z7).toNat : Int)))) := by
  have hl : s.data.toList.length = 8 := by simpa using h
  have g : ∀ k (hk : k < s.size), s.data.toList.getD k 0 = s[k]'hk := by
    intro k hk
    rw [List.getD_eq_getElem?_getD, List.getElem?_eq_getElem (by simpa using hk)]
    rfl
  unfold isVer dig
  rw [g 5 z5, g 6 z6, g 7 z7, decide_eq_true hl]
  have hb : decide (s[6]'z6 = (46 : UInt8)) = decide (((s[6]'z6).toNat : Int) = 46) := by
    by_cases h : s[6]'z6 = (46 : UInt8)
    · rw [h]; rfl
    · rw [decide_eq_false h, decide_eq_false]
      intro h2
      exact h (UInt8.toNat_inj.1 (by show (s[6]'z6).toNat = 46; omega))
  have hp : P5.isPrefixOf s.data.toList = decide (s.data.toList.take 5 = P5) := by
    rw [Bool.eq_iff_iff, List.isPrefixOf_iff_prefix, decide_eq_true_iff]
    constructor
    · rintro ⟨t, ht⟩; rw [← ht]; rfl
    · intro h; exact ⟨s.data.toList.drop 5, by rw [← h, List.take_append_drop]⟩
  rw [hb, hp]; rfl
set_option maxRecDepth 20000 in
set_option maxHeartbeats 2000000 in
theorem versionRef (s : ByteArray) (hs : s.size ≤ 140737488351232) (w : World) :
    Calls Tryz.prog 23 #[.string s] w fun e w' => e = .returned (.tuple #[.int .i64 (verM s.data.toList).1, .int .i64 (verM s.data.toList).2]) ∧ w' = w := by
  by_cases h0 : s.data.toList = V10
  · obtain rfl := ba_mk h0
    have R : Hid (verM (⟨V10.toArray⟩ : ByteArray).data.toList = (0, 0)) := by unfold Hid; decide
    rw [R.out]
    unfold V10
    have x5 : (⟨#[72, 84, 84, 80, 47, 49, 46, 48]⟩ : ByteArray).extract 0 5 = ⟨#[72, 84, 84, 80, 47]⟩ := ext5 _
    clear h0 R hs
    go_enter Tryz.func23, Tryz.ntmps23
    go_wp2
    go_ret2
    exact ⟨rfl, rfl⟩
  by_cases h1 : s.data.toList = V11
  · obtain rfl := ba_mk h1
    have R : Hid (verM (⟨V11.toArray⟩ : ByteArray).data.toList = (1, 0)) := by unfold Hid; decide
    rw [R.out]
    unfold V11
    have x5 : (⟨#[72, 84, 84, 80, 47, 49, 46, 49]⟩ : ByteArray).extract 0 5 = ⟨#[72, 84, 84, 80, 47]⟩ := ext5 _
    clear h0 h1 R hs
    go_enter Tryz.func23, Tryz.ntmps23
    go_wp2
    go_ret2
    exact ⟨rfl, rfl⟩
  have n0 := ba_ne s V10 h0
  unfold V10 at n0
  obtain ⟨n1, n2⟩ := n0
  have n3 := ba_ne s V11 h1
  unfold V11 at n3
  obtain ⟨n3, n4⟩ := n3
  have M : minOf s.data.toList = (0, 52) := by unfold minOf; rw [if_neg h0, if_neg h1]
  have bad : isVer s.data.toList = false → Hid (verM s.data.toList = (0, 50)) := by intro h; unfold Hid verM; rw [h]; rfl
  by_cases h8 : s.size = 8
  · have z5 : 5 < s.size := by omega
    have z6 : 6 < s.size := by omega
    have z7 : 7 < s.size := by omega
    have V := ver_eight s h8 z5 z6 z7
    have t8 : ((s.size : Int) != 8) = false := by rw [h8]; decide
    have sl : ∀ W, Sem.run Tryz.prog (Instr.slice 9 (.string s) none (some (.int .i64 5)) none) W = .ok (.string ⟨(s.data.toList.take 5).toArray⟩) W := fun W => cut_to s 5 (by omega) W
    have b5 := byte_lt s[5]
    have b6 := byte_lt s[6]
    have b7 := byte_lt s[7]
    have xx := ext5 s
    by_cases hp : s.data.toList.take 5 = P5
    · rw [decide_eq_true hp, Bool.true_and] at V
      rw [hp] at sl xx
      unfold P5 at sl xx
      clear h8 hp h0 h1
      by_cases d5 : digI (s[5].toNat : Int) = true
      · have e5 : 48 ≤ (s[5].toNat : Int) ∧ (s[5].toNat : Int) ≤ 57 := by unfold digI at d5; simpa using d5
        have u1 : decide ((s[5].toNat : Int) < 48) = false := by simp; omega
        have u2 : decide ((57 : Int) < (s[5].toNat : Int)) = false := by simp; omega
        by_cases d6 : (s[6].toNat : Int) = 46
        · have u3 : ((s[6].toNat : Int) != 46) = false := by rw [d6]; decide
          have u3b : (s[6].toNat != 46) = false := by simp; omega
          by_cases d7 : digI (s[7].toNat : Int) = true
          · have e7 : 48 ≤ (s[7].toNat : Int) ∧ (s[7].toNat : Int) ≤ 57 := by unfold digI at d7; simpa using d7
            have u4 : decide ((s[7].toNat : Int) < 48) = false := by simp; omega
            have u5 : decide ((57 : Int) < (s[7].toNat : Int)) = false := by simp; omega
            have R : Hid (verM s.data.toList = (0, 52)) := by unfold Hid verM; rw [V, d5, d7, decide_eq_true d6]; exact M
            rw [R.out]
            clear d5 d6 d7 e5 e7 R V bad M
            go_enter Tryz.func23, Tryz.ntmps23
            go_wp2_with fail
            go_ret2
            exact ⟨rfl, rfl⟩
          · have d7f : digI (s[7].toNat : Int) = false := by simpa using d7
            by_cases e7 : (s[7].toNat : Int) < 48
            · have u4 : decide ((s[7].toNat : Int) < 48) = true := by simpa using e7
              have R := bad (by rw [V]; rw [d7f]; simp)
              rw [R.out]
              clear d5 d6 d7 d7f e5 e7 R V bad M
              go_enter Tryz.func23, Tryz.ntmps23
              go_wp2_with fail
              go_ret2
              exact ⟨rfl, rfl⟩
            · have e8 : (57 : Int) < (s[7].toNat : Int) := by unfold digI at d7f; simp at d7f; omega
              have u4 : decide ((s[7].toNat : Int) < 48) = false := by simpa using e7
              have u5 : decide ((57 : Int) < (s[7].toNat : Int)) = true := by simpa using e8
              have R := bad (by rw [V]; rw [d7f]; simp)
              rw [R.out]
              clear d5 d6 d7 d7f e5 e7 e8 R V bad M
              go_enter Tryz.func23, Tryz.ntmps23
              go_wp2_with fail
              go_ret2
              exact ⟨rfl, rfl⟩
        · have u3 : ((s[6].toNat : Int) != 46) = true := by simpa using d6
          have u3b : (s[6].toNat != 46) = true := by simp; omega
          have R := bad (by rw [V]; rw [decide_eq_false d6]; simp)
          rw [R.out]
          clear d5 d6 e5 R V bad M
          go_enter Tryz.func23, Tryz.ntmps23
          go_wp2_with fail
          go_ret2
          exact ⟨rfl, rfl⟩
      · have d5f : digI (s[5].toNat : Int) = false := by simpa using d5
        by_cases e5 : (s[5].toNat : Int) < 48
        · have u1 : decide ((s[5].toNat : Int) < 48) = true := by simpa using e5
          have R := bad (by rw [V]; rw [d5f]; simp)
          rw [R.out]
          clear d5 d5f e5 R V bad M
          go_enter Tryz.func23, Tryz.ntmps23
          go_wp2_with fail
          go_ret2
          exact ⟨rfl, rfl⟩
        · have e6 : (57 : Int) < (s[5].toNat : Int) := by unfold digI at d5f; simp at d5f; omega
          have u1 : decide ((s[5].toNat : Int) < 48) = false := by simpa using e5
          have u2 : decide ((57 : Int) < (s[5].toNat : Int)) = true := by simpa using e6
          have R := bad (by rw [V]; rw [d5f]; simp)
          rw [R.out]
          clear d5 d5f e5 e6 R V bad M
          go_enter Tryz.func23, Tryz.ntmps23
          go_wp2_with fail
          go_ret2
          exact ⟨rfl, rfl⟩
    · rw [decide_eq_false hp, Bool.false_and] at V
      have R := bad V
      rw [R.out]
      have m1 := ba_ne ⟨(s.data.toList.take 5).toArray⟩ P5 hp
      have m5 : (s.data.toList.take 5 == P5) = false := by simpa using hp
      unfold P5 at m1 m5
      obtain ⟨m1, m2⟩ := m1
      generalize s.data.toList.take 5 = pp at sl xx m1 m2 m5
      clear h8 hp h0 h1 R V bad M b5 b6 b7
      go_enter Tryz.func23, Tryz.ntmps23
      go_wp2_with fail
      go_ret2
      exact ⟨rfl, rfl⟩
  · have hn : ¬ s.data.toList.length = 8 := by simpa using h8
    have R := bad (by unfold isVer; rw [decide_eq_false hn]; simp)
    rw [R.out]
    have t8 : ((s.size : Int) != 8) = true := by simp; omega
    clear h8 hn h0 h1 R bad M
    go_enter Tryz.func23, Tryz.ntmps23
    go_wp2_with fail
    go_ret2
    exact ⟨rfl, rfl⟩
end Go.Proofs.YtbbaajlabpjnlabGreatDoor
