/- The document's Origin and Show; the walk of UriShows. -/
import Derived.Test.YtddbemleialpbaaDoorUaY
import Derived.Test.YtddbemleialpbaaDoorShw
namespace Go.Proofs.YtddbemleialpbaaDoor
open Go.RowKit
set_option maxHeartbeats 2000000 in
theorem originRef (h q : ByteArray) (p : Int) (hp : In64 p) (hh : h.size ≤ 140737488351232) (w : World) :
    Calls Tryd.prog 7 #[.agg #[.string h, .int .i64 p, .string q]] w fun e w' => e = .returned (.string (h ++ ⟨#[58]⟩ ++ itoaT p)) ∧ Below w.heap.size w w' := by
  have zi := itoa_size p hp
  have cI := fun w => showInt p hp.1 hp.2 w
  simp only [show ∀ q : Int, (⟨(Lib.itoa q).toArray⟩ : ByteArray) = itoaT q from fun _ => rfl] at cI
  generalize itoaT p = I at cI zi
  have cW : Hid (∀ (W : World) (g : Nat), g < W.heap.size → W.cell? ⟨g, 0, none⟩ = some (.string h) ∧ W.cell? ⟨g, 1, none⟩ = some (.int .i64 p) ∧ W.cell? ⟨g, 2, none⟩ = some (.string q) → Calls Tryd.prog 8 #[.int .i64 p] W fun e w' => e = .returned (.string I) ∧ w'.cell? ⟨g, 0, none⟩ = some (.string h) ∧ w'.cell? ⟨g, 1, none⟩ = some (.int .i64 p) ∧ w'.cell? ⟨g, 2, none⟩ = some (.string q) ∧ Below W.heap.size W w') := by
    intro W g hgl hc
    refine (cI W).mono ?_
    rintro e w' ⟨rfl, b⟩
    obtain ⟨k0, k1, k2⟩ := cells_below hc hgl b
    exact ⟨rfl, k0, k1, k2, b⟩
  clear cI
  have a1 : ∀ W, (Op.stringOp .add h ⟨#[58]⟩).run Tryd.prog W = .ok (.string (h ++ ⟨#[58]⟩)) W := fun W => run_string_add_sum W _ _ (by have : (⟨#[58]⟩ : ByteArray).size = 1 := rfl; omega)
  have a2 : ∀ W, (Op.stringOp .add (h ++ ⟨#[58]⟩) I).run Tryd.prog W = .ok (.string (h ++ ⟨#[58]⟩ ++ I)) W := fun W => run_string_add_sum W _ _ (by rw [ByteArray.size_append]; have : (⟨#[58]⟩ : ByteArray).size = 1 := rfl; omega)
  have a3 : (h.size : Int) ≤ 140737488351232 := by omega
  have a4 : ((h ++ (⟨#[58]⟩ : ByteArray)).size : Int) ≤ 140737488351233 := by rw [ByteArray.size_append]; have : (⟨#[58]⟩ : ByteArray).size = 1 := rfl; omega
  go_enter Tryd.func7, Tryd.ntmps7
  go_wp2_with fail
  obtain ⟨W, eW⟩ : ∃ W, W = w.alloc (.cells #[.string h, .int .i64 p, .string q] 23) := ⟨_, rfl⟩
  rw [← eW]
  obtain ⟨k0, k1, k2⟩ : W.cell? ⟨w.heap.size, 0, none⟩ = some (.string h) ∧ W.cell? ⟨w.heap.size, 1, none⟩ = some (.int .i64 p) ∧ W.cell? ⟨w.heap.size, 2, none⟩ = some (.string q) := by rw [eW]; exact lit3 w h q p
  have LW : w.heap.size < W.heap.size := by rw [eW]; simp
  have BW : Hid (Below w.heap.size w W) := by unfold Hid; rw [eW]; exact alloc_below _ _
  clear eW hp
  generalize hg : w.heap.size = g at k0 k1 k2 LW
  go_region_held3 (fun w' => w'.cell? ⟨g, 0, none⟩ = some (.string h) ∧ w'.cell? ⟨g, 1, none⟩ = some (.int .i64 p) ∧ w'.cell? ⟨g, 2, none⟩ = some (.string q)) (go_keep)
    (first | (go_at_call 8; refine (cW.out _ g (by simp; omega) ⟨by simp [*], by simp [*], by simp [*]⟩).mono ?_; rintro e' w3 ⟨rfl, k3, k4, k5, b3⟩))
  all_goals
    have B3 : Hid (Below w.heap.size w w3) := BW.out.trans (((Below.refl _ W).drew.trans b3).mono BW.out.size)
    clear b3 BW k0 k1 k2 k3 k4 k5 cW
    go_wp2_with fail
    go_ret
    rw [← hg]
    exact ⟨rfl, B3.out⟩
theorem show_eq (h I q : ByteArray) : (⟨#[104, 116, 116, 112, 58, 47, 47]⟩ : ByteArray) ++ h ++ (⟨#[58]⟩ ++ I) ++ q = ⟨#[104, 116, 116, 112, 58, 47, 47]⟩ ++ (h ++ ⟨#[58]⟩ ++ I) ++ q := by
  simp only [ByteArray.append_assoc]
set_option maxHeartbeats 2000000 in
theorem showRef (h q : ByteArray) (p : Int) (hp : In64 p) (hh : h.size ≤ 140737488351232) (hq : q.size ≤ 140737488351232) (w : World) :
    Calls Tryd.prog 5 #[.agg #[.string h, .int .i64 p, .string q]] w fun e w' => e = .returned (.string (showT h p q)) ∧ Below w.heap.size w w' := by
  have b0 := alloc_below w (.cells #[.string h, .int .i64 p, .string q] 23)
  have B0 := hide b0
  have a1 : ∀ W, (Op.stringOp .add ⟨#[104, 116, 116, 112, 58, 47, 47]⟩ h).run Tryd.prog W = .ok (.string (⟨#[104, 116, 116, 112, 58, 47, 47]⟩ ++ h)) W := fun W => run_string_add_sum W _ _ (by rw [http_size]; omega)
  have z1 : ((⟨#[104, 116, 116, 112, 58, 47, 47]⟩ : ByteArray) ++ h).size = 7 + h.size := by rw [ByteArray.size_append, http_size]
  by_cases h80 : p = 80
  · have R : Hid (showT h p q = ⟨#[104, 116, 116, 112, 58, 47, 47]⟩ ++ h ++ q) := by unfold Hid showT; rw [if_pos h80]
    have q1 : (p != 80) = false := by simpa using h80
    have a2 : ∀ W, (Op.stringOp .add (⟨#[104, 116, 116, 112, 58, 47, 47]⟩ ++ h) q).run Tryd.prog W = .ok (.string (⟨#[104, 116, 116, 112, 58, 47, 47]⟩ ++ h ++ q)) W := fun W => run_string_add_sum W _ _ (by rw [z1]; omega)
    generalize (⟨#[104, 116, 116, 112, 58, 47, 47]⟩ : ByteArray) ++ h = X1 at a1 a2 z1 R
    generalize X1 ++ q = X2 at a2 R
    have n1 : X1.size ≤ 140737488351239 := by omega
    clear h80 hp b0 z1
    go_enter Tryd.func5, Tryd.ntmps5
    go_wp2_with fail
    go_ret
    rw [R.out]
    exact ⟨rfl, B0.out⟩
  · have zi := itoa_size p hp
    have cI := hide (fun W => showInt p hp.1 hp.2 W)
    have R : Hid (showT h p q = ⟨#[104, 116, 116, 112, 58, 47, 47]⟩ ++ h ++ (⟨#[58]⟩ ++ itoaT p) ++ q) := by unfold Hid showT originT; rw [if_neg h80, show_eq]
    have q1 : (p != 80) = true := by simpa using h80
    unfold itoaT at R zi
    generalize (⟨(Lib.itoa p).toArray⟩ : ByteArray) = I at cI R zi
    have a3 : ∀ W, (Op.stringOp .add ⟨#[58]⟩ I).run Tryd.prog W = .ok (.string (⟨#[58]⟩ ++ I)) W := fun W => run_string_add_sum W _ _ (by have : (⟨#[58]⟩ : ByteArray).size = 1 := rfl; omega)
    have z3 : ((⟨#[58]⟩ : ByteArray) ++ I).size = 1 + I.size := by rw [ByteArray.size_append]; rfl
    have a4 : ∀ W, (Op.stringOp .add (⟨#[104, 116, 116, 112, 58, 47, 47]⟩ ++ h) (⟨#[58]⟩ ++ I)).run Tryd.prog W = .ok (.string (⟨#[104, 116, 116, 112, 58, 47, 47]⟩ ++ h ++ (⟨#[58]⟩ ++ I))) W := fun W => run_string_add_sum W _ _ (by rw [z1, z3]; omega)
    have z4 : ((⟨#[104, 116, 116, 112, 58, 47, 47]⟩ : ByteArray) ++ h ++ (⟨#[58]⟩ ++ I)).size = 7 + h.size + (1 + I.size) := by rw [ByteArray.size_append, z1, z3]
    have a5 : ∀ W, (Op.stringOp .add (⟨#[104, 116, 116, 112, 58, 47, 47]⟩ ++ h ++ (⟨#[58]⟩ ++ I)) q).run Tryd.prog W = .ok (.string (⟨#[104, 116, 116, 112, 58, 47, 47]⟩ ++ h ++ (⟨#[58]⟩ ++ I) ++ q)) W := fun W => run_string_add_sum W _ _ (by rw [z4]; omega)
    generalize (⟨#[104, 116, 116, 112, 58, 47, 47]⟩ : ByteArray) ++ h = X1 at a1 a4 a5 z1 z4 R
    generalize (⟨#[58]⟩ : ByteArray) ++ I = X3 at a3 a4 a5 z3 z4 R
    generalize X1 ++ X3 = X4 at a4 a5 z4 R
    generalize X4 ++ q = X5 at a5 R
    have n1 : X1.size ≤ 140737488351239 := by omega
    have n4 : X4.size ≤ 140737488351300 := by omega
    obtain ⟨k0, k1, k2⟩ := lit3 w h q p
    have C0 := hide (And.intro k0 (And.intro k1 k2))
    clear h80 hp b0 z1 z3 z4
    go_enter Tryd.func5, Tryd.ntmps5
    go_wp2_with fail
    refine (cI.out _).mono ?_
    rintro e w1 ⟨rfl, b1⟩
    obtain ⟨j0, j1, j2⟩ := cells_below C0.out (by simp) b1
    have B1 := hide (show Below w.heap.size w w1 from B0.out.trans (b1.mono B0.out.size))
    clear b1 k0 k1 k2
    go_wp2_with fail
    go_ret
    rw [R.out]
    exact ⟨rfl, B1.out⟩
namespace uriShows
theorem alive_show : showT ⟨#[97]⟩ 8080 ⟨#[47, 120]⟩ = ⟨#[104, 116, 116, 112, 58, 47, 47, 97, 58, 56, 48, 56, 48, 47, 120]⟩ := by
  have e : itoaT 8080 = ⟨#[56, 48, 56, 48]⟩ := by
    unfold itoaT Lib.itoa
    rw [if_neg (by decide), show (8080 : Int).toNat = 8080 from rfl, Lib.decDigits, dif_neg (by decide), Lib.decDigits, dif_neg (by decide), Lib.decDigits, dif_neg (by decide), Lib.decDigits_one (by decide)]
    rfl
  unfold showT originT
  rw [if_neg (by decide), e]
  decide
set_option maxRecDepth 20000 in
set_option maxHeartbeats 8000000 in
theorem walk (h : ByteArray) (p : Int) (q : ByteArray) (w : World) (hp : In64 p) (hh : h.size ≤ 140737488351232) (hq : q.size ≤ 140737488351232) (T : Tab w) :
    Calls Tryd.prog 3 #[.agg #[.string h, .int .i64 p, .string q]] w fun e w' => e = .returned (.bool true) ∧ Below w.heap.size w w' := by
  have b0 := alloc_below w (.cells #[.string h, .int .i64 p, .string q] 23)
  have hF := lit3 w h q p
  have hg : w.heap.size < (w.alloc (.cells #[.string h, .int .i64 p, .string q] 23)).heap.size := by simp
  have T0 := tab_below T b0
  obtain ⟨W0, hW0⟩ : ∃ W0, W0 = w.alloc (.cells #[.string h, .int .i64 p, .string q] 23) := ⟨_, rfl⟩
  have HW0 := hide hW0
  rw [← hW0] at b0 hF hg T0
  have c0 := showCode ⟨#[97]⟩ ⟨#[47, 120]⟩ 8080 (by unfold In64; decide) (by decide) (by decide) W0 T0
  rw [alive_show] at c0
  have C0 := hide c0
  obtain ⟨g, hgg⟩ : ∃ g, g = w.heap.size := ⟨_, rfl⟩
  have HGG := hide hgg
  rw [← hgg] at hF hg
  have B0 := hide b0
  have F0 := hide hF
  have HG := hide hg
  have HT0 := hide T0
  have mk : ∀ (F : FuncId) (X : ByteArray), (∀ W, Tab W → Calls Tryd.prog F #[.agg #[.string h, .int .i64 p, .string q]] W fun e w' => e = .returned (.string X) ∧ Below W.heap.size W w') → ∀ W, Below W0.heap.size W0 W → Calls Tryd.prog F #[.agg #[.string h, .int .i64 p, .string q]] W fun e w' => e = .returned (.string X) ∧ Hid (Below W0.heap.size W0 w') ∧ w'.cell? ⟨g, 0, none⟩ = some (.string h) ∧ w'.cell? ⟨g, 1, none⟩ = some (.int .i64 p) ∧ w'.cell? ⟨g, 2, none⟩ = some (.string q) := by
    intro F X c W hb
    refine (c W (tab_below HT0.out hb)).mono ?_
    rintro e w' ⟨rfl, b⟩
    have b2 : Below W0.heap.size W0 w' := hb.trans (b.mono hb.size)
    obtain ⟨k0, k1, k2⟩ := cells_below F0.out HG.out b2
    exact ⟨rfl, b2, k0, k1, k2⟩
  have k1 := hide (mk 4 _ (fun W hT => showCode h q p hp hh hq W hT))
  have k2 := hide (mk 5 _ (fun W _ => showRef h q p hp hh hq W))
  have k3 := hide (mk 6 _ (fun W hT => originCode h q p hp hh W hT))
  have k4 := hide (mk 7 _ (fun W _ => originRef h q p hp hh W))
  generalize showT h p q = X at k1 k2
  generalize h ++ ⟨#[58]⟩ ++ itoaT p = Y at k3 k4
  clear c0 b0 hW0 hgg mk T T0 hp
  go_enter Tryd.func3, Tryd.ntmps3
  go_wp2_with fail
  rw [← HW0.out]
  refine C0.out.mono ?_
  rintro e w1 ⟨rfl, b1⟩
  obtain ⟨c0, c1, c2⟩ := cells_below F0.out HG.out b1
  have O1 := hide b1
  rw [← HGG.out]
  clear b1 C0 F0 hF hh hq
  go_wp2_with fail
  go_region_held3 (fun w' => w'.cell? ⟨g, 0, none⟩ = some (.string h) ∧ w'.cell? ⟨g, 1, none⟩ = some (.int .i64 p) ∧ w'.cell? ⟨g, 2, none⟩ = some (.string q)) (go_keep)
    (first
      | (go_at_call 4; refine (k1.out _ ?_).mono ?_; (first | exact O1.out.drew | exact O1.out); rintro e w2 ⟨rfl, O2, d0, d1, d2⟩)
      | (go_at_call 5; refine (k2.out _ O2.out).mono ?_; rintro e w3 ⟨rfl, O3, d3, d4, d5⟩)
      | (go_at_call 6; refine (k3.out _ O3.out).mono ?_; rintro e w4 ⟨rfl, O4, d6, d7, d8⟩)
      | (go_at_call 7; refine (k4.out _ O4.out).mono ?_; rintro e w5 ⟨rfl, O5, d9, d10, d11⟩))
  all_goals
    go_wp2_with fail
    go_ret
    exact ⟨rfl, B0.out.trans (O5.out.mono B0.out.size)⟩
end uriShows
end Go.Proofs.YtddbemleialpbaaDoor
