/- The walk of UriCodes. -/
import Derived.Test.YtjnkpfjkmgcmlabDoorUaV
namespace Go.Proofs.YtjnkpfjkmgcmlabDoor.uriCodes
open Go.RowKit
def lowD : ByteArray := ⟨#[48, 49, 50, 51, 52, 53, 54, 55, 56, 57, 97, 98, 99, 100, 101, 102]⟩
theorem low_get (a : Fin 16) : (lowD.extract a.val (a.val + 1)).data.toList = [lowD.data.toList.getD a.val 0] ∧ hexB (lowD.data.toList.getD a.val 0) = (a.val : Int) ∧ addrB (lowD.data.toList.getD a.val 0) = true := by
  revert a; decide +kernel
theorem sl_dig (v : Int) (h0 : 0 ≤ v) (h1 : v < 16) : ∃ (x : UInt8) (X : ByteArray), hexB x = v ∧ addrB x = true ∧ X.data.toList = [x] ∧ X.size = 1 ∧ ∀ W, Sem.run Tryd.prog (Instr.slice 9 (.string ⟨#[48, 49, 50, 51, 52, 53, 54, 55, 56, 57, 97, 98, 99, 100, 101, 102]⟩) (some (.int .u8 v)) (some (.int .u8 (v + 1))) none) W = .ok (.string X) W := by
  obtain ⟨n, rfl⟩ : ∃ n : Nat, v = n := ⟨v.toNat, by omega⟩
  obtain ⟨e1, e2, e3⟩ := low_get ⟨n, by omega⟩
  refine ⟨_, lowD.extract n (n + 1), e2, e3, e1, by rw [size_list, e1]; rfl, fun W => ?_⟩
  rw [run_slice_string W 9 _ .u8 .u8 (n : Int) ((n : Int) + 1) Tryd.underlying9 h0 (by omega) (by show (n : Int) + 1 ≤ 16; omega)]
  rfl
def no37 (c : UInt8) : Bool := decide (c ≠ 37)
set_option maxRecDepth 20000 in
set_option maxHeartbeats 4000000 in
theorem walk (s r : ByteArray) (c : Int) (w : World) (hs : s.size ≤ 140737488351232) (hr : r.size ≤ 140737488351232) (hc : (Lit.int .u8 c).wf = true) (hsh : w.ShapedOpen Tryd.prog) :
    Calls Tryd.prog 3 #[.string s, .string r, .int .u8 c] w fun e w' => e = .returned (.bool true) ∧ Below w.heap.size w w' := by
  have M := hide (maxV_of hsh)
  clear hsh
  have hb : 0 ≤ c ∧ c ≤ 255 := by
    simp [Lit.wf] at hc
    exact ⟨hc.1, hc.2⟩
  clear hc
  have cl := hide (aliveCode w M.out)
  by_cases h1 : c < 97
  · go_enter Tryd.func3, Tryd.ntmps3
    go_wp2_with fail
    refine cl.out.mono ?_
    rintro e w1 ⟨rfl, b1⟩
    replace b1 := hide b1
    go_wp2_with fail
    go_ret
    exact ⟨rfl, b1.out⟩
  · by_cases h2 : 122 < c
    · have h1' : 97 ≤ c := by omega
      clear h1
      go_enter Tryd.func3, Tryd.ntmps3
      go_wp2_with fail
      refine cl.out.mono ?_
      rintro e w1 ⟨rfl, b1⟩
      replace b1 := hide b1
      go_wp2_with fail
      go_ret
      exact ⟨rfl, b1.out⟩
    · have h1' : 97 ≤ c := by omega
      have h2' : c ≤ 122 := by omega
      have q1 : decide (c < 97) = false := decide_eq_false (by omega)
      have q2 : decide (122 < c) = false := decide_eq_false (by omega)
      clear h1 h2
      by_cases hz : 4000 < s.size + r.size
      · have hz' : (4000 : Int) < (s.size : Int) + r.size := by omega
        go_enter Tryd.func3, Tryd.ntmps3
        go_wp2_with fail
        refine cl.out.mono ?_
        rintro e w1 ⟨rfl, b1⟩
        replace b1 := hide b1
        go_wp2_with fail
        go_ret
        exact ⟨rfl, b1.out⟩
      · have hz' : (s.size : Int) + r.size ≤ 4000 := by omega
        have w1 : IntKind.u8.wrap (c.tdiv 16) = c / 16 := by rw [Int.tdiv_eq_ediv_of_nonneg (by omega), IntKind.wrap_u8]; omega
        have w3 : IntKind.u8.wrap (c.tmod 16) = c % 16 := by rw [Int.tmod_eq_emod_of_nonneg (by omega), IntKind.wrap_u8]; omega
        obtain ⟨x, X, hx, ax, lX, zX, r1⟩ := sl_dig (c / 16) (by omega) (by omega)
        obtain ⟨y, Y, hy, ay, lY, zY, r2⟩ := sl_dig (c % 16) (by omega) (by omega)
        have w2 : IntKind.u8.wrap (c / 16 + 1) = c / 16 + 1 := by rw [IntKind.wrap_u8]; omega
        have w4 : IntKind.u8.wrap (c % 16 + 1) = c % 16 + 1 := by rw [IntKind.wrap_u8]; omega
        obtain ⟨k, ek⟩ : ∃ k : UInt8, c = (k.toNat : Int) := ⟨ofI c, by rw [ofI_toNat _ (by omega) (by omega)]⟩
        obtain ⟨C, eC⟩ : ∃ C : ByteArray, C = ⟨[k].toArray⟩ := ⟨_, rfl⟩
        have lC : C.data.toList = [k] := by rw [eC]
        have zC : C.size = 1 := by rw [size_list, lC]; rfl
        have cv := fun W => own_conv (own_lit W k c ek)
        simp only [← eC] at cv
        have ca := fun w M => parseCode ((⟨#[104, 116, 116, 112, 58, 47, 47, 104, 47]⟩ : ByteArray) ++ s ++ C ++ r) w (by simp only [ByteArray.size_append]; have : (⟨#[104, 116, 116, 112, 58, 47, 47, 104, 47]⟩ : ByteArray).size = 9 := rfl; omega) M
        have cb := fun w M => parseCode ((⟨#[104, 116, 116, 112, 58, 47, 47, 104, 47]⟩ : ByteArray) ++ s ++ ((⟨#[37]⟩ : ByteArray) ++ X ++ Y) ++ r) w (by simp only [ByteArray.size_append]; have : (⟨#[104, 116, 116, 112, 58, 47, 47, 104, 47]⟩ : ByteArray).size = 9 := rfl; have : (⟨#[37]⟩ : ByteArray).size = 1 := rfl; omega) M
        have la : ((⟨#[104, 116, 116, 112, 58, 47, 47, 104, 47]⟩ : ByteArray) ++ s ++ C ++ r).data.toList = http ++ ([104] ++ ([] ++ (47 :: (s.data.toList ++ k :: r.data.toList)))) := by simp [ByteArray.data_append, http, lC]
        have lb : ((⟨#[104, 116, 116, 112, 58, 47, 47, 104, 47]⟩ : ByteArray) ++ s ++ ((⟨#[37]⟩ : ByteArray) ++ X ++ Y) ++ r).data.toList = http ++ ([104] ++ ([] ++ (47 :: (s.data.toList ++ 37 :: x :: y :: r.data.toList)))) := by simp [ByteArray.data_append, http, lX, lY]
        simp only [la] at ca
        simp only [lb] at cb
        have E := hide (fun hn => codes_plain s.data.toList r.data.toList k x y (by omega) (by omega) (by rw [hx, ek]) (by rw [hy, ek]) ax ay hn (by rw [len_list, len_list]; omega))
        clear la lb lC lX lY eC ek hx hy ax ay
        generalize parseP (http ++ ([104] ++ ([] ++ (47 :: (s.data.toList ++ k :: r.data.toList))))) = an at ca E
        generalize parseP (http ++ ([104] ++ ([] ++ (47 :: (s.data.toList ++ 37 :: x :: y :: r.data.toList))))) = bn at cb E
        simp only [show ansV an = .tuple #[.agg #[.string ⟨an.1.host.toArray⟩, .int .i64 an.1.port, .string ⟨an.1.path.toArray⟩], .int .i64 an.2] from rfl] at ca
        simp only [show ansV bn = .tuple #[.agg #[.string ⟨bn.1.host.toArray⟩, .int .i64 bn.1.port, .string ⟨bn.1.path.toArray⟩], .int .i64 bn.2] from rfl] at cb
        have E2 : Hid ((∀ d ∈ s.data.toList, d ≠ 37) → (⟨an.1.host.toArray⟩ : ByteArray) = ⟨bn.1.host.toArray⟩ ∧ (⟨an.1.path.toArray⟩ : ByteArray) = ⟨bn.1.path.toArray⟩ ∧ an.1.port = bn.1.port ∧ an.2 = bn.2) := by
          intro hn
          rw [E.out hn]
          exact ⟨rfl, rfl, rfl, rfl⟩
        clear E
        generalize (⟨an.1.host.toArray⟩ : ByteArray) = h1 at ca E2
        generalize (⟨an.1.path.toArray⟩ : ByteArray) = q1 at ca E2
        generalize an.1.port = p1 at ca E2
        generalize an.2 = n1 at ca E2
        generalize (⟨bn.1.host.toArray⟩ : ByteArray) = h2 at cb E2
        generalize (⟨bn.1.path.toArray⟩ : ByteArray) = q2 at cb E2
        generalize bn.1.port = p2 at cb E2
        generalize bn.2 = n2 at cb E2
        replace ca := hide ca
        replace cb := hide cb
        replace cv := hide cv
        go_enter Tryd.func3, Tryd.ntmps3
        go_wp2_with fail
        refine cl.out.mono ?_
        rintro e w5 ⟨rfl, b5⟩
        have M5 := hide (maxV_below M.out b5)
        replace b5 := hide b5
        clear M cl
        go_wp2_with fail
        go_quiet (fail)
        obtain ⟨W, eW⟩ : ∃ W, W = w5.drewN nq := ⟨_, rfl⟩
        rw [← eW]
        have MW : Hid (MaxV W) := by unfold Hid; rw [eW]; exact maxV_below M5.out (below_draw w5 nq)
        have BW : Hid (Below w.heap.size w W) := by unfold Hid; rw [eW]; exact below_drawn b5.out nq
        clear eW r1 r2 w1 w2 w3 w4 M5 b5
        have cvW := cv.out W
        go_wp2_with fail
        clear cvW
        refine (ca.out _ (maxV_below MW.out (alloc_below W _))).mono ?_
        rintro e w6 ⟨rfl, b6⟩
        have M6 := hide (maxV_below (maxV_below (maxV_below MW.out (alloc_below W _)) b6) (alloc_below w6 (.cells #[.string h1, .int .i64 p1, .string q1] 24)))
        have B6 : Hid (Below w.heap.size w w6) := (BW.out.alloc BW.out.size _).trans (b6.mono (by have := BW.out.size; simp; omega))
        clear b6 MW BW ca
        go_wp2_with fail
        refine (cb.out _ M6.out).mono ?_
        rintro e w7 ⟨rfl, b7⟩
        obtain ⟨d0, d1, d2⟩ := cells_below (lit_cells w6 h1 q1 p1) (by simp) b7
        have B7 : Hid (Below w.heap.size w w7) := (B6.out.alloc B6.out.size _).trans (b7.mono (by have := B6.out.size; simp; omega))
        have L7 : w6.heap.size < w7.heap.size := by have := b7.size; simp at this; omega
        clear b7 M6 cb B6 cv
        go_wp2_with fail
        go_loop [13] (fun i => ∃ j : Nat, j ≤ s.size ∧ i = .int .i64 j ∧ Hid ((s.data.toList.take j).all no37 = true)) (fun i => s.size - (intOf i).toNat)
        case atStart => exact ⟨0, Nat.zero_le _, rfl, rfl⟩
        case round =>
          obtain ⟨j, hj, rfl, H⟩ := hrel
          by_cases hlt : j < s.size
          · have hbj := byte_lt s[j]
            by_cases h37 : (s[j].toNat : Int) = 37
            · have t1 : ((s[j].toNat : Int) == 37) = true := by simpa using h37
              clear h37 H
              go_wp2_with fail
              go_ret
              exact ⟨rfl, B7.out.alloc B7.out.size _⟩
            · have t1 : ((s[j].toNat : Int) == 37) = false := by simpa using h37
              have H2 : Hid ((s.data.toList.take (j + 1)).all no37 = true) := all_take no37 s j hlt H.out (decide_eq_true (fun e => h37 (by rw [e]; rfl)))
              clear h37 H
              go_wp2_with fail
              go_round
              case rel => exact ⟨j + 1, by omega, by go_num, H2⟩
              case measure => simp [intOf]; omega
          · have HA := all_end no37 s j (by omega) H.out
            obtain ⟨rfl, rfl, rfl, rfl⟩ := E2.out (fun d hd => of_decide_eq_true (List.all_eq_true.1 HA d hd))
            clear H HA E2
            go_wp2_with fail
            go_ret
            exact ⟨rfl, B7.out.alloc B7.out.size _⟩
end Go.Proofs.YtjnkpfjkmgcmlabDoor.uriCodes
