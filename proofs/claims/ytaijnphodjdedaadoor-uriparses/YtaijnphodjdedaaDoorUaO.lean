/- The contract of cutAuthority; what Parse comes to. -/
import Derived.Test.YtaijnphodjdedaaDoorUaI
import Derived.Test.YtaijnphodjdedaaDoorUaC
import Derived.Test.YtaijnphodjdedaaDoorUaN
import Derived.Test.YtaijnphodjdedaaDoorUrR
namespace Go.Proofs.YtaijnphodjdedaaDoor
open Go.RowKit
/-- the authority that a text begins with, and the rest -/
def auT (s : ByteArray) : ByteArray := ⟨(s.data.toList.takeWhile noEnd).toArray⟩
def restT (s : ByteArray) : ByteArray := ⟨(s.data.toList.dropWhile noEnd).toArray⟩
theorem auT_list (s : ByteArray) : (auT s).data.toList = s.data.toList.takeWhile noEnd := mk_list _
theorem restT_list (s : ByteArray) : (restT s).data.toList = s.data.toList.dropWhile noEnd := mk_list _
theorem auT_size (s : ByteArray) : (auT s).size ≤ s.size := by
  unfold auT; rw [mk_size, ← len_list]; exact (List.takeWhile_sublist noEnd).length_le
theorem restT_size (s : ByteArray) : (restT s).size ≤ s.size := by
  unfold restT; rw [mk_size, ← len_list]; exact (List.dropWhile_sublist noEnd).length_le
theorem ext_to (s : ByteArray) (k : Nat) : (s.extract 0 k).data.toList = s.data.toList.take k := by simp [ByteArray.data_extract, List.extract_eq_take_drop]
theorem ext_from (s : ByteArray) (k : Nat) : (s.extract k s.size).data.toList = s.data.toList.drop k := by
  simp [ByteArray.data_extract, List.extract_eq_take_drop]
  exact List.take_of_length_le (by simp)
theorem ne_empty (s : ByteArray) (h : 0 < s.size) : s.toList.isEmpty = false := by
  rw [Lib.toList_data]
  cases e : s.data.toList with
  | nil => have := len_list s; rw [e] at this; simp at this; omega
  | cons c l => rfl
set_option maxHeartbeats 1000000 in
theorem cutAuCode (s : ByteArray) (hs : s.size ≤ 4096) (ha : s.data.toList.all addrB = true) (w : World) :
    Calls Tryd.prog 14 #[.string s] w fun e w' => e = .returned (.tuple #[.string (auT s), .string (restT s)]) ∧ Below w.heap.size w w' := by
  have c := Any.strings_IndexAny_laid Tryd.lays153 (by kernel_rfl) s ⟨#[47, 63]⟩ w (by omega) (by decide) (by
    intro j b hb
    have := of_decide_eq_true (List.all_eq_true.1 ha b (List.mem_of_getElem? hb))
    omega) (by
    intro j b hb
    have h := List.mem_of_getElem? hb
    rw [show (⟨#[47, 63]⟩ : ByteArray).data.toList = [47, 63] from rfl] at h
    simp at h
    rcases h with rfl | rfl <;> decide)
  rw [show (⟨#[47, 63]⟩ : ByteArray).data.toList = [47, 63] from rfl, index_any] at c
  by_cases hh : s.data.toList.all noEnd = true
  · rw [if_pos hh] at c
    have e1 : Hid (auT s = s) := by unfold Hid auT; rw [(while_all noEnd _ hh).1, ba_eta]
    have e2 : Hid (restT s = ⟨#[]⟩) := by unfold Hid restT; rw [(while_all noEnd _ hh).2]
    replace c := hide c
    clear hh ha
    go_enter Tryd.func14, Tryd.ntmps14
    go_wp2_with fail
    refine c.out.mono ?_
    rintro e w1 ⟨rfl, b1⟩
    replace b1 := hide b1
    go_wp2_with fail
    go_ret2
    rw [e1.out, e2.out]
    exact ⟨rfl, b1.out⟩
  · rw [if_neg hh] at c
    have hl := while_len noEnd _ hh
    rw [len_list] at hl
    have e1 : Hid (s.extract 0 (s.data.toList.takeWhile noEnd).length = auT s) := ba_ext (by rw [ext_to, while_take, auT_list])
    have e2 : Hid (s.extract (s.data.toList.takeWhile noEnd).length s.size = restT s) := ba_ext (by rw [ext_from, restT_list]; exact while_drop noEnd _ 0)
    generalize (s.data.toList.takeWhile noEnd).length = k at c hl e1 e2
    replace c := hide c
    have h0 : (0 : Int) ≤ k := by omega
    have h1 : (k : Int) ≤ s.size := by omega
    clear hh ha
    go_enter Tryd.func14, Tryd.ntmps14
    go_wp2_with fail
    refine c.out.mono ?_
    rintro e w1 ⟨rfl, b1⟩
    replace b1 := hide b1
    go_wp2_with fail
    go_quiet (fail)
    go_wp2_with fail
    go_ret2
    rw [e1.out, e2.out]
    exact ⟨rfl, below_drawn b1.out _⟩
theorem recode_len : ∀ (n : Nat) (l r : List UInt8), l.length ≤ n → recode l = some r → r.length ≤ l.length
  | _, [], r, _, h => by simp [recode] at h; subst h; simp
  | 0, c :: l, r, hn, _ => by simp at hn
  | n + 1, c :: l, r, hn, h => by
    by_cases hc : c = 37
    · subst hc
      match l, h, hn with
      | [], h, _ => simp [recode] at h
      | [d], h, _ => simp [recode] at h
      | a :: b :: l, h, hn =>
        by_cases hb : hexB a < 0 ∨ hexB b < 0
        · rw [recode_bad a b l hb] at h; cases h
        · rw [recode_code a b l (by omega) (by omega)] at h
          cases hr : recode l with
          | none => rw [hr] at h; cases h
          | some q =>
            rw [hr] at h
            obtain rfl : code a b ++ q = r := by simpa using h
            have ih := recode_len n l q (by simp at hn; omega) hr
            have hcl : (code a b).length ≤ 3 := by unfold code; split <;> simp
            simp; omega
    · rw [recode_plain c l hc] at h
      cases hr : recode l with
      | none => rw [hr] at h; cases h
      | some q =>
        rw [hr] at h
        obtain rfl : c :: q = r := by simpa using h
        have ih := recode_len n l q (by simp at hn; omega) hr
        simp; omega
theorem parse_long (s : ByteArray) (h : 4096 < s.size) : parseP s.data.toList = (Tgt.none, 101) := by
  unfold parseP; rw [len_list, if_pos h]
theorem parse_bytes (s : ByteArray) (h : ¬ 4096 < s.size) (ha : allAddr s.data.toList = false) : parseP s.data.toList = (Tgt.none, 30) := by
  unfold parseP; rw [len_list, if_neg h]; unfold allAddr at ha; rw [if_pos ha]
theorem parse_scheme (s : ByteArray) (h : ¬ 4096 < s.size) (ha : allAddr s.data.toList = true) (hm : lows (s.data.toList.take 7) ≠ http) : parseP s.data.toList = (Tgt.none, 31) := by
  unfold parseP; rw [len_list, if_neg h]; unfold allAddr at ha; rw [if_neg (by rw [ha]; simp), if_pos hm]
theorem parse_read (s : ByteArray) (h : ¬ 4096 < s.size) (ha : allAddr s.data.toList = true) (hm : lows (s.data.toList.take 7) = http) : parseP s.data.toList = readAu (auT (s.extract 7 s.size)).data.toList (restT (s.extract 7 s.size)).data.toList := by
  unfold parseP; rw [len_list, if_neg h]; unfold allAddr at ha; rw [if_neg (by rw [ha]; simp), if_neg (by simp [hm]), auT_list, restT_list, ext_from]
theorem read_host (a r : ByteArray) (h : isHost (hostT a).data.toList = false) : readAu a.data.toList r.data.toList = (Tgt.none, 32) := by
  rw [hostT_list] at h; unfold readAu; rw [if_pos h]
theorem read_port (a r : ByteArray) (h : isHost (hostT a).data.toList = true) (hp : portSaid (digsT a).data.toList = 0) : readAu a.data.toList r.data.toList = (Tgt.none, 33) := by
  rw [hostT_list] at h; rw [digsT_list] at hp; unfold readAu; rw [if_neg (by rw [h]; simp), if_pos hp]
theorem read_rest (a r : ByteArray) (h : isHost (hostT a).data.toList = true) (p : Int) (hp : portSaid (digsT a).data.toList = p) (h0 : p ≠ 0) : readAu a.data.toList r.data.toList = readRest (hostT a).data.toList p (recode r.data.toList) := by
  rw [hostT_list] at h ⊢; rw [digsT_list] at hp; unfold readAu; rw [if_neg (by rw [h]; simp), hp, if_neg h0]
theorem short_scheme (l : List UInt8) (h : l.length < 7) : lows (l.take 7) ≠ http := by
  intro e
  have := congrArg List.length e
  rw [lows_len, List.length_take] at this
  have h7 : http.length = 7 := rfl
  omega
end Go.Proofs.YtaijnphodjdedaaDoor
