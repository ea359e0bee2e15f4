/- The walk of ControlFirst. -/
import Derived.Test.YtemmghmacbofaaaDoorLawKnC
namespace Go.Proofs.YtemmghmacbofaaaDoor
open Go.RowKit
theorem first_l (D r : ByteArray) (k : Nat) (hD : D.data.toList = Lib.decDigits k) : (((((⟨#[109, 97, 120, 45, 97, 103, 101, 61]⟩ ++ D) ++ ⟨#[44, 115, 45, 109, 97, 120, 97, 103, 101, 61]⟩) ++ D) ++ ⟨#[44]⟩) ++ r).data.toList = firstT k r.data.toList := by
  simp [ByteArray.data_append, hD, firstT, mab, smb]
theorem firstT_len (k : Nat) (hk : k ≤ 2147483648) (r : List UInt8) : (firstT k r).length ≤ r.length + 100 := by
  have h : (Lib.decDigits k).length ≤ 20 := by
    by_cases h0 : k = 0
    · subst h0; rw [Lib.decDigits_one (by omega)]; simp
    · have := decE_len 20 k (by omega)
      unfold decE at this
      rw [if_neg h0] at this
      exact this
  unfold firstT
  simp only [List.length_append, List.length_cons, mab, smb, List.length_nil]
  omega
set_option maxHeartbeats 2000000 in
theorem firstW (x : Int) (r : ByteArray) (w : World) (hs : r.size ≤ 1048576) :
    Calls Tryd.prog 7 #[.int .i64 x, .string r] w fun e w' => e = .returned (.bool true) ∧ Below w.heap.size w w' := by
  have cA := hide' (aliveK w)
  have lr : r.data.toList.length = r.size := by simp
  by_cases h0 : x < 0
  · go_enter Tryd.func7, Tryd.ntmps7
    go_wp2_with fail
    refine cA.out.mono ?_
    rintro e w1 ⟨rfl, bw⟩
    have B1 := hide' bw
    clear bw cA
    go_wp2_with fail
    go_ret
    exact ⟨rfl, B1.out⟩
  · by_cases h1 : 2147483648 < x
    · go_enter Tryd.func7, Tryd.ntmps7
      go_wp2_with fail
      refine cA.out.mono ?_
      rintro e w1 ⟨rfl, bw⟩
      have B1 := hide' bw
      clear bw cA
      go_wp2_with fail
      go_ret
      exact ⟨rfl, B1.out⟩
    · obtain ⟨k, rfl⟩ : ∃ k : Nat, x = (k : Int) := ⟨x.toNat, by omega⟩
      have hk : k ≤ 2147483648 := by omega
      have cS := hide' (fun W => showNat k (by omega) W)
      have DL : Hid ((⟨(Lib.decDigits k).toArray⟩ : ByteArray).data.toList = Lib.decDigits k) := by unfold Hid; simp
      obtain ⟨b0, b1, b2, b3, b4, b5, n6, n7, n8, n9, hE⟩ := ctl_shape (dirsOf [firstT k r.data.toList]) false
      have e6 : n6 = (k : Int) := by
        have h := hE
        unfold ctlV at h
        have h2 := first_ma k hk r.data.toList
        simp at h
        omega
      have e7 : n7 = (k : Int) := by
        have h := hE
        unfold ctlV at h
        have h2 := first_sm k hk r.data.toList
        simp at h
        omega
      subst e6 e7
      have hsz : (⟨(Lib.decDigits k).toArray⟩ : ByteArray).size ≤ 20 := by
        rw [size_l]
        by_cases h0 : k = 0
        · subst h0; rw [Lib.decDigits_one (by omega)]; simp
        · have := decE_len 20 k (by omega)
          unfold decE at this
          rw [if_neg h0] at this
          exact this
      have hfl := firstT_len k hk r.data.toList
      generalize (⟨(Lib.decDigits k).toArray⟩ : ByteArray) = D at cS DL hsz
      have c1 := hide' (fun u W (hu : HoldsF W u [(ccb, (((((⟨#[109, 97, 120, 45, 97, 103, 101, 61]⟩ ++ D) ++ ⟨#[44, 115, 45, 109, 97, 120, 97, 103, 101, 61]⟩) ++ D) ++ ⟨#[44]⟩) ++ r).data.toList)]) => by
        have h := ctlOne u _ W hu (by rw [first_l D r k DL.out]; omega)
        rw [first_l D r k DL.out, hE] at h
        exact h)
      have cO := hide' (fun W => oneB (((((⟨#[109, 97, 120, 45, 97, 103, 101, 61]⟩ ++ D) ++ ⟨#[44, 115, 45, 109, 97, 120, 97, 103, 101, 61]⟩) ++ D) ++ ⟨#[44]⟩) ++ r) W)
      clear hE lr hfl DL
      go_enter Tryd.func7, Tryd.ntmps7
      go_wp2_with fail
      refine cA.out.mono ?_
      rintro e w1 ⟨rfl, bw⟩
      have B1 := hide' bw
      clear bw cA
      go_wp2_with fail
      refine (cS.out _).mono ?_
      rintro e w2 ⟨rfl, bw⟩
      have B2 := hide' (B1.out.trans (bw.mono B1.out.size))
      clear bw B1
      go_wp2_with fail
      refine (cS.out _).mono ?_
      rintro e w3 ⟨rfl, bw⟩
      have B3 := hide' (B2.out.trans (bw.mono B2.out.size))
      clear bw B2
      go_wp2_with fail
      refine (cO.out _).mono ?_
      rintro e w4 ⟨u, rfl, hu, bw⟩
      have B4 := hide' (B3.out.trans (bw.mono B3.out.size))
      have c3 := hide' (c1.out u w4 hu)
      obtain ⟨ao, ca, _, _, he, -⟩ := holdsF_parts hu
      replace he : u = .slice ao 1 ca := he
      rw [he] at c3 ⊢
      clear hu bw he B3 c1 cO
      go_wp2_with fail
      refine c3.out.mono ?_
      rintro e w5 ⟨rfl, bw⟩
      have B5 := hide' (B4.out.trans (bw.mono B4.out.size))
      clear bw B4 c3
      go_wp2_with fail
      go_ret
      exact ⟨rfl, B5.out.alloc B5.out.size _⟩
end Go.Proofs.YtemmghmacbofaaaDoor
