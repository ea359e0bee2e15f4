/- The contract of Show. -/
import Derived.Test.YtddbemleialpbaaDoorUaX
namespace Go.Proofs.YtddbemleialpbaaDoor
open Go.RowKit
def originT (h : ByteArray) (p : Int) : ByteArray := h ++ ⟨#[58]⟩ ++ itoaT p
def showT (h : ByteArray) (p : Int) (q : ByteArray) : ByteArray := if p = 80 then ⟨#[104, 116, 116, 112, 58, 47, 47]⟩ ++ h ++ q else ⟨#[104, 116, 116, 112, 58, 47, 47]⟩ ++ originT h p ++ q
theorem originT_size (h : ByteArray) (p : Int) (hp : In64 p) : (originT h p).size ≤ h.size + 21 := by
  have := itoa_size p hp
  unfold originT
  rw [ByteArray.size_append, ByteArray.size_append, show (⟨#[58]⟩ : ByteArray).size = 1 from rfl]
  omega
theorem http_size : (⟨#[104, 116, 116, 112, 58, 47, 47]⟩ : ByteArray).size = 7 := rfl
set_option maxHeartbeats 2000000 in
theorem showCode (h q : ByteArray) (p : Int) (hp : In64 p) (hh : h.size ≤ 140737488351232) (hq : q.size ≤ 140737488351232) (w : World) (T : Tab w) :
    Calls Tryd.prog 4 #[.agg #[.string h, .int .i64 p, .string q]] w fun e w' => e = .returned (.string (showT h p q)) ∧ Below w.heap.size w w' := by
  by_cases h80 : p = 80
  · have R : Hid (showT h p q = ⟨#[104, 116, 116, 112, 58, 47, 47]⟩ ++ h ++ q) := by unfold Hid showT; rw [if_pos h80]
    have q1 : (p == 80) = true := by simpa using h80
    have a1 : ((⟨#[104, 116, 116, 112, 58, 47, 47]⟩ : ByteArray) ++ h).size ≤ 140737488351239 := by rw [ByteArray.size_append, http_size]; omega
    have B1 := hide (alloc_below w (.cells #[.string h, .int .i64 p, .string q] 23))
    clear h80 T hp
    go_enter Tryd.func4, Tryd.ntmps4
    go_wp2_with fail
    go_ret
    rw [R.out]
    exact ⟨rfl, B1.out⟩
  · have R : Hid (showT h p q = ⟨#[104, 116, 116, 112, 58, 47, 47]⟩ ++ originT h p ++ q) := by unfold Hid showT; rw [if_neg h80]
    have q1 : (p == 80) = false := by simpa using h80
    have zo := originT_size h p hp
    have cI := fun w T => originCode h q p hp hh w T
    simp only [show h ++ ⟨#[58]⟩ ++ itoaT p = originT h p from rfl] at cI
    generalize originT h p = O at cI zo R
    have a1 : ∀ W, (Op.stringOp .add ⟨#[104, 116, 116, 112, 58, 47, 47]⟩ O).run Tryd.prog W = .ok (.string (⟨#[104, 116, 116, 112, 58, 47, 47]⟩ ++ O)) W := fun W => run_string_add_sum W _ _ (by rw [http_size]; omega)
    have a2 : ∀ W, (Op.stringOp .add (⟨#[104, 116, 116, 112, 58, 47, 47]⟩ ++ O) q).run Tryd.prog W = .ok (.string (⟨#[104, 116, 116, 112, 58, 47, 47]⟩ ++ O ++ q)) W := fun W => run_string_add_sum W _ _ (by rw [ByteArray.size_append, http_size]; omega)
    have a3 : ((⟨#[104, 116, 116, 112, 58, 47, 47]⟩ : ByteArray) ++ O).size ≤ 140737488351300 := by rw [ByteArray.size_append, http_size]; omega
    have cW : Hid (∀ (W : World) (g : Nat), g < W.heap.size → Tab W → W.cell? ⟨g, 0, none⟩ = some (.string h) ∧ W.cell? ⟨g, 1, none⟩ = some (.int .i64 p) ∧ W.cell? ⟨g, 2, none⟩ = some (.string q) → Calls Tryd.prog 6 #[.agg #[.string h, .int .i64 p, .string q]] W fun e w' => e = .returned (.string O) ∧ w'.cell? ⟨g, 0, none⟩ = some (.string h) ∧ w'.cell? ⟨g, 1, none⟩ = some (.int .i64 p) ∧ w'.cell? ⟨g, 2, none⟩ = some (.string q) ∧ Below W.heap.size W w') := by
      intro W g hgl hT hc
      refine (cI W hT).mono ?_
      rintro e w' ⟨rfl, b⟩
      obtain ⟨k0, k1, k2⟩ := cells_below hc hgl b
      exact ⟨rfl, k0, k1, k2, b⟩
    clear cI h80
    go_enter Tryd.func4, Tryd.ntmps4
    go_wp2_with fail
    obtain ⟨W, eW⟩ : ∃ W, W = w.alloc (.cells #[.string h, .int .i64 p, .string q] 23) := ⟨_, rfl⟩
    rw [← eW]
    obtain ⟨k0, k1, k2⟩ : W.cell? ⟨w.heap.size, 0, none⟩ = some (.string h) ∧ W.cell? ⟨w.heap.size, 1, none⟩ = some (.int .i64 p) ∧ W.cell? ⟨w.heap.size, 2, none⟩ = some (.string q) := by rw [eW]; exact lit3 w h q p
    have LW : w.heap.size < W.heap.size := by rw [eW]; simp
    have BW : Hid (Below w.heap.size w W) := by unfold Hid; rw [eW]; exact alloc_below _ _
    have TW := hide (tab_below (tab_below T BW.out) ((Below.refl _ W).drew))
    clear eW T hp
    generalize hg : w.heap.size = g at k0 k1 k2 LW
    go_region_held3 (fun w' => w'.cell? ⟨g, 0, none⟩ = some (.string h) ∧ w'.cell? ⟨g, 1, none⟩ = some (.int .i64 p) ∧ w'.cell? ⟨g, 2, none⟩ = some (.string q)) (go_keep)
      (first | (go_at_call 6; refine (cW.out _ g (by simp; omega) TW.out ⟨by simp [*], by simp [*], by simp [*]⟩).mono ?_; rintro e' w3 ⟨rfl, k3, k4, k5, b3⟩))
    all_goals
      have B3 : Hid (Below w.heap.size w w3) := BW.out.trans (((Below.refl _ W).drew.trans b3).mono BW.out.size)
      clear b3 BW k0 k1 k2 k3 k4 k5 cW
      go_wp2_with fail
      go_ret
      rw [R.out, ← hg]
      exact ⟨rfl, B3.out⟩
/-- the same in lists -/
theorem origin_list (h : ByteArray) (p : Int) (q : List UInt8) : (originT h p).data.toList = originP ⟨h.data.toList, p, q⟩ := by
  unfold originT originP itoaT
  simp [ByteArray.data_append]
theorem show_list (h : ByteArray) (p : Int) (q : ByteArray) : (showT h p q).data.toList = showP ⟨h.data.toList, p, q.data.toList⟩ := by
  unfold showT showP portPart
  by_cases h80 : p = 80
  · rw [if_pos h80, if_pos h80]; simp [ByteArray.data_append, http]
  · rw [if_neg h80, if_neg h80]; unfold originT itoaT; simp [ByteArray.data_append, http]
theorem show_size (h : ByteArray) (p : Int) (q : ByteArray) (hp : In64 p) : (showT h p q).size ≤ h.size + q.size + 28 := by
  have := originT_size h p hp
  unfold showT
  split
  · rw [ByteArray.size_append, ByteArray.size_append, http_size]; omega
  · rw [ByteArray.size_append, ByteArray.size_append, http_size]; omega
end Go.Proofs.YtddbemleialpbaaDoor
