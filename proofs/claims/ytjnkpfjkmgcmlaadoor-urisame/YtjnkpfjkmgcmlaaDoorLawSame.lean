/- The walk of UriSame. -/
import Derived.Test.YtjnkpfjkmgcmlaaDoorUaV
import Derived.Test.YtjnkpfjkmgcmlaaDoorLowR
namespace Go.Proofs.YtjnkpfjkmgcmlaaDoor.uriSame
open Go.RowKit
def free (c : UInt8) : Bool := decide (c ≠ 58 ∧ c ≠ 47 ∧ c ≠ 63)
theorem free_int (c : UInt8) : (free c = true ∧ ¬ (c.toNat : Int) = 58 ∧ ¬ (c.toNat : Int) = 47 ∧ ¬ (c.toNat : Int) = 63) ∨ (c.toNat : Int) = 58 ∨ (¬ (c.toNat : Int) = 58 ∧ (c.toNat : Int) = 47) ∨ (¬ (c.toNat : Int) = 58 ∧ ¬ (c.toNat : Int) = 47 ∧ (c.toNat : Int) = 63) := by
  by_cases h1 : (c.toNat : Int) = 58
  · exact .inr (.inl h1)
  · by_cases h2 : (c.toNat : Int) = 47
    · exact .inr (.inr (.inl ⟨h1, h2⟩))
    · by_cases h3 : (c.toNat : Int) = 63
      · exact .inr (.inr (.inr ⟨h1, h2, h3⟩))
      · refine .inl ⟨decide_eq_true ⟨?_, ?_, ?_⟩, h1, h2, h3⟩
        · intro e; apply h1; rw [e]; rfl
        · intro e; apply h2; rw [e]; rfl
        · intro e; apply h3; rw [e]; rfl
theorem all3 (s : ByteArray) (k : Nat) (h : k < s.size) (ha : (s.data.toList.take k).all free = true) (hc : free s[k] = true) : (s.data.toList.take (k + 1)).all free = true := all_take free s k h ha hc
theorem drop_zero_cons (r : ByteArray) (h : 0 < r.size) : r.data.toList = r[0] :: r.data.toList.drop 1 := drop_cons r 0 h
set_option maxRecDepth 20000 in
set_option maxHeartbeats 4000000 in
theorem walk (s r : ByteArray) (w : World) (hs : s.size ≤ 140737488351232) (hr : r.size ≤ 140737488351232) (hsh : w.ShapedOpen Tryd.prog) :
    Calls Tryd.prog 7 #[.string s, .string r] w fun e w' => e = .returned (.bool true) ∧ Below w.heap.size w w' := by
  have M := hide (maxV_of hsh)
  clear hsh
  have cl := hide (aliveCode w M.out)
  go_enter Tryd.func7, Tryd.ntmps7
  go_wp2_with fail
  refine cl.out.mono ?_
  rintro e w1 ⟨rfl, b1⟩
  have M1 := hide (maxV_below M.out b1)
  have B1 := hide b1
  clear M b1 cl
  go_wp2_with fail
  go_loop [5] (fun i => ∃ k : Nat, k ≤ s.size ∧ i = .int .i64 k ∧ Hid ((s.data.toList.take k).all free = true)) (fun i => s.size - (intOf i).toNat)
  case atStart => exact ⟨0, Nat.zero_le _, rfl, rfl⟩
  case round =>
    obtain ⟨k, hk, rfl, H⟩ := hrel
    by_cases hlt : k < s.size
    · have hb := byte_lt s[k]
      rcases free_int s[k] with ⟨hf, h1, h2, h3⟩ | h1 | ⟨h1, h2⟩ | ⟨h1, h2, h3⟩
      · have H2 : Hid ((s.data.toList.take (k + 1)).all free = true) := all3 s k hlt H.out hf
        have q1 : ((s[k].toNat : Int) == 58) = false := by simpa using h1
        have q2 : ((s[k].toNat : Int) == 47) = false := by simpa using h2
        have q3 : ((s[k].toNat : Int) == 63) = false := by simpa using h3
        clear h1 h2 h3 hf H
        go_wp2_with fail
        go_round
        case rel => exact ⟨k + 1, by omega, by go_num, H2⟩
        case measure => simp [intOf]; omega
      · have q1 : ((s[k].toNat : Int) == 58) = true := by simpa using h1
        clear h1 H
        go_wp2_with fail
        go_ret
        exact ⟨rfl, B1.out⟩
      · have q1 : ((s[k].toNat : Int) == 58) = false := by simpa using h1
        have q2 : ((s[k].toNat : Int) == 47) = true := by simpa using h2
        clear h1 h2 H
        go_wp2_with fail
        go_ret
        exact ⟨rfl, B1.out⟩
      · have q1 : ((s[k].toNat : Int) == 58) = false := by simpa using h1
        have q2 : ((s[k].toNat : Int) == 47) = false := by simpa using h2
        have q3 : ((s[k].toNat : Int) == 63) = true := by simpa using h3
        clear h1 h2 h3 H
        go_wp2_with fail
        go_ret
        exact ⟨rfl, B1.out⟩
    · have HA := hide (all_end free s k (by omega) H.out)
      clear H
      by_cases hz : 4000 < s.size + r.size
      · have hz' : (4000 : Int) < (s.size : Int) + r.size := by omega
        go_wp2_with fail
        go_ret
        exact ⟨rfl, B1.out⟩
      · have hz' : (s.size : Int) + r.size ≤ 4000 := by omega
        have hh : ∀ c ∈ s.data.toList, c ≠ 58 ∧ c ≠ 47 ∧ c ≠ 63 := fun c hc => of_decide_eq_true (List.all_eq_true.1 HA.out c hc)
        have cL := hide (fun w => lowerRef s w hs)
        have zL : (⟨(lows s.data.toList).toArray⟩ : ByteArray).size = s.size := by rw [mk_size, lows_len, len_list]
        obtain ⟨sl, el⟩ : ∃ x : ByteArray, x = ⟨(lows s.data.toList).toArray⟩ := ⟨_, rfl⟩
        have ell : sl.data.toList = lows s.data.toList := by rw [el]
        rw [← el] at cL zL
        have ca := fun w M => parseCode ((⟨#[104, 116, 116, 112, 58, 47, 47]⟩ : ByteArray) ++ s ++ r) w (by simp only [ByteArray.size_append]; have : (⟨#[104, 116, 116, 112, 58, 47, 47]⟩ : ByteArray).size = 7 := rfl; omega) M
        have cb := fun w M => parseCode ((⟨#[104, 84, 84, 112, 58, 47, 47]⟩ : ByteArray) ++ sl ++ (⟨#[58, 56, 48]⟩ : ByteArray) ++ r) w (by simp only [ByteArray.size_append]; have : (⟨#[104, 84, 84, 112, 58, 47, 47]⟩ : ByteArray).size = 7 := rfl; have : (⟨#[58, 56, 48]⟩ : ByteArray).size = 3 := rfl; omega) M
        have cc := fun w M => parseCode ((⟨#[104, 116, 116, 112, 58, 47, 47]⟩ : ByteArray) ++ s ++ (⟨#[58]⟩ : ByteArray) ++ r) w (by simp only [ByteArray.size_append]; have : (⟨#[104, 116, 116, 112, 58, 47, 47]⟩ : ByteArray).size = 7 := rfl; have : (⟨#[58]⟩ : ByteArray).size = 1 := rfl; omega) M
        have la : ((⟨#[104, 116, 116, 112, 58, 47, 47]⟩ : ByteArray) ++ s ++ r).data.toList = http ++ (s.data.toList ++ ([] ++ r.data.toList)) := by simp [ByteArray.data_append, http]
        have lb : ((⟨#[104, 84, 84, 112, 58, 47, 47]⟩ : ByteArray) ++ sl ++ (⟨#[58, 56, 48]⟩ : ByteArray) ++ r).data.toList = [104, 84, 84, 112, 58, 47, 47] ++ (lows s.data.toList ++ ([58, 56, 48] ++ r.data.toList)) := by rw [← ell]; simp [ByteArray.data_append]
        have lc : ((⟨#[104, 116, 116, 112, 58, 47, 47]⟩ : ByteArray) ++ s ++ (⟨#[58]⟩ : ByteArray) ++ r).data.toList = http ++ (s.data.toList ++ ([58] ++ r.data.toList)) := by simp [ByteArray.data_append, http]
        simp only [la] at ca
        simp only [lb] at cb
        simp only [lc] at cc
        clear la lb lc el ell HA
        have fin : ∀ (P : (∀ c l, r.data.toList = c :: l → c = 47 ∨ c = 63)), Hid (parseP ([104, 84, 84, 112, 58, 47, 47] ++ (lows s.data.toList ++ ([58, 56, 48] ++ r.data.toList))) = parseP (http ++ (s.data.toList ++ ([] ++ r.data.toList))) ∧ parseP (http ++ (s.data.toList ++ ([58] ++ r.data.toList))) = parseP (http ++ (s.data.toList ++ ([] ++ r.data.toList)))) := fun P => same_plain s.data.toList r.data.toList hh P (by rw [len_list, len_list]; omega)
        clear hh
        by_cases hbad : 0 < r.size ∧ ¬ ((r.data.toList.headD 0).toNat : Int) = 47 ∧ ¬ ((r.data.toList.headD 0).toNat : Int) = 63
        · obtain ⟨h0, h1, h2⟩ := hbad
          have e0 : r.data.toList.headD 0 = r[0] := by rw [drop_zero_cons r h0]; rfl
          rw [e0] at h1 h2
          have q0 := ne_empty r h0
          have q1 : ((r[0].toNat : Int) != 47) = true := by simpa using h1
          have q2 : ((r[0].toNat : Int) != 63) = true := by simpa using h2
          clear fin ca cb cc cL e0 h1 h2
          go_wp2_with fail
          go_ret
          exact ⟨rfl, B1.out⟩
        · have P : ∀ c l, r.data.toList = c :: l → c = 47 ∨ c = 63 := by
            intro c l e
            rw [e] at hbad
            have hz0 : 0 < r.size := by rw [size_list, e]; simp
            by_cases h1 : (c.toNat : Int) = 47
            · exact .inl (UInt8.toNat_inj.1 (by have : (47 : UInt8).toNat = 47 := rfl; omega))
            · by_cases h2 : (c.toNat : Int) = 63
              · exact .inr (UInt8.toNat_inj.1 (by have : (63 : UInt8).toNat = 63 := rfl; omega))
              · exact absurd ⟨hz0, h1, h2⟩ hbad
          obtain ⟨e1, e2⟩ := fin P
          simp only [e1] at cb
          simp only [e2] at cc
          clear e1 e2 fin hbad
          generalize parseP (http ++ (s.data.toList ++ ([] ++ r.data.toList))) = ans at ca cb cc
          simp only [show ansV ans = .tuple #[.agg #[.string ⟨ans.1.host.toArray⟩, .int .i64 ans.1.port, .string ⟨ans.1.path.toArray⟩], .int .i64 ans.2] from rfl] at ca cb cc
          generalize (⟨ans.1.host.toArray⟩ : ByteArray) = h at ca cb cc
          generalize (⟨ans.1.path.toArray⟩ : ByteArray) = q at ca cb cc
          generalize ans.1.port = p at ca cb cc
          generalize ans.2 = n at ca cb cc
          replace ca := hide ca
          replace cb := hide cb
          replace cc := hide cc
          have zz : (r.size = 0 ∧ r.toList.isEmpty = true) ∨ (∃ h0 : 0 < r.size, r.toList.isEmpty = false ∧ ((r[0].toNat : Int) != 47) = false) ∨ (∃ h0 : 0 < r.size, r.toList.isEmpty = false ∧ ((r[0].toNat : Int) != 47) = true ∧ ((r[0].toNat : Int) != 63) = false) := by
            by_cases h0 : 0 < r.size
            · have hd := drop_zero_cons r h0
              rcases P _ _ hd with e | e
              · exact .inr (.inl ⟨h0, ne_empty r h0, by rw [e]; rfl⟩)
              · exact .inr (.inr ⟨h0, ne_empty r h0, by rw [e]; decide, by rw [e]; rfl⟩)
            · refine .inl ⟨by omega, ?_⟩
              have hnil : r.data.toList = [] := List.eq_nil_of_length_eq_zero (by rw [len_list]; omega)
              rw [Lib.toList_data, hnil]; rfl
          clear P
          rcases zz with ⟨_, q0⟩ | ⟨h0, q0, q1⟩ | ⟨h0, q0, q1, q2⟩
          all_goals
            go_wp2_with fail
            refine (ca.out _ M1.out).mono ?_
            rintro e w2 ⟨rfl, b2⟩
            have M2 := hide (maxV_below (maxV_below M1.out b2) (alloc_below w2 (.cells #[.string h, .int .i64 p, .string q] 24)))
            have B2 : Hid (Below w.heap.size w w2) := B1.out.trans (b2.mono B1.out.size)
            clear b2 ca
            go_wp2_with fail
            refine (cL.out _).mono ?_
            rintro e w3 ⟨rfl, b3⟩
            have C3 := cells_below (lit_cells w2 h q p) (by simp) b3
            have M3 := hide (maxV_below M2.out b3)
            have B3 : Hid (Below w.heap.size w w3) := (B2.out.alloc B2.out.size _).trans (b3.mono (by have := B2.out.size; simp; omega))
            have L3 : w2.heap.size < w3.heap.size := by have := b3.size; simp at this; omega
            clear b3 M2
            replace C3 := hide C3
            go_wp2_with fail
            refine (cb.out _ M3.out).mono ?_
            rintro e w4 ⟨rfl, b4⟩
            have C4 := hide (cells_below C3.out L3 b4)
            have M4 := hide (maxV_below (maxV_below M3.out b4) (alloc_below w4 (.cells #[.string h, .int .i64 p, .string q] 24)))
            have B4 : Hid (Below w.heap.size w w4) := B3.out.trans (b4.mono B3.out.size)
            have L4 : w2.heap.size < w4.heap.size := by have := b4.size; omega
            clear b4 M3 C3
            go_wp2_with fail
            refine (cc.out _ M4.out).mono ?_
            rintro e w5 ⟨rfl, b5⟩
            obtain ⟨d0, d1, d2⟩ := cells_below (lit_cells w4 h q p) (by simp) b5
            obtain ⟨f0, f1, f2⟩ := cells_below (cells_below C4.out L4 (alloc_below w4 (.cells #[.string h, .int .i64 p, .string q] 24))) (by simp; omega) b5
            have B5 : Hid (Below w.heap.size w w5) := (B4.out.alloc B4.out.size _).trans (b5.mono (by have := B4.out.size; simp; omega))
            have L5 : w4.heap.size < w5.heap.size := by have := b5.size; simp at this; omega
            have L6 : w2.heap.size < w5.heap.size := by omega
            clear b5 M4 C4 L3
            go_wp2_with fail
            go_ret
            exact ⟨rfl, B5.out.alloc B5.out.size _⟩
end Go.Proofs.YtjnkpfjkmgcmlaaDoor.uriSame
