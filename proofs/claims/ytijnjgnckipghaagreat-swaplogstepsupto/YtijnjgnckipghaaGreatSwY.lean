/- Plain: the sound part alone, and with anything behind it; what is written behind one another is read. -/
import Derived.Test.YtijnjgnckipghaaGreatBw15
import Derived.Test.YtijnjgnckipghaaGreatRcQ
namespace Go.Proofs.YtijnjgnckipghaaGreat
theorem enc_inv {seq op no : Int} {id x : List UInt8} (h : encOf seq op no id = (x, 0)) : (op = 1 ∨ op = 2) ∧ (0 ≤ seq ∧ seq ≤ 4294967295) ∧ (0 ≤ no ∧ no ≤ 4294967295) ∧ id.length ≤ 4096 ∧ x = recL op.toNat seq.toNat no.toNat id := by
  unfold encOf at h
  split at h
  · rename_i h1
    split at h
    · rename_i h2
      exact ⟨h1.1, h1.2.1, h1.2.2, h2, (congrArg Prod.fst h).symm⟩
    · exact absurd (congrArg Prod.snd h) (by simp)
  · exact absurd (congrArg Prod.snd h) (by simp)
/-- what is written is read, with whatever behind -/
theorem enc_dec {seq op no : Int} {id x : List UInt8} (h : encOf seq op no id = (x, 0)) (z : List UInt8) : decOf (x ++ z) = ⟨seq.toNat, op.toNat, no.toNat, id, x.length, 0⟩ := by
  obtain ⟨h1, h2, h3, h4, rfl⟩ := enc_inv h
  rw [dec_rec _ _ _ _ z (by omega) (by omega) (by omega) h4, recL_len, Nat.add_comm]
/-- a record that is read is read of its own bytes, with whatever behind -/
theorem dec_same {l : List UInt8} (h : (decOf l).n ≠ 0) (z : List UInt8) : decOf (l.take (decOf l).n ++ z) = decOf l := by
  obtain ⟨h1, h2, h3⟩ := dec_plain l h
  rw [enc_dec h1 z, List.length_take, Nat.min_eq_left h2]
  obtain ⟨D, hD⟩ : ∃ D, D = decOf l := ⟨_, rfl⟩
  rw [← hD] at h3 ⊢
  obtain ⟨a, b, c, d, n, e⟩ := D
  dsimp only at h3 ⊢
  rw [h3]
  rfl
theorem atR_mono (bs : List UInt8) {i j : Nat} (h : i ≤ j) : atR bs i ≤ atR bs j := by
  induction j with
  | zero => obtain rfl : i = 0 := by omega
            exact Nat.le_refl _
  | succ j ih =>
    by_cases e : i = j + 1
    · rw [e]; exact Nat.le_refl _
    · have := ih (by omega)
      rw [atR_succ]; omega
/-- behind the sound part anything may stand: its records are read as they were -/
theorem sound_behind {bs : List UInt8} {K : Nat} (h : ∀ i, i < K → okR bs i) (z : List UInt8) : ∀ i, i ≤ K → atR (bs.take (atR bs K) ++ z) i = atR bs i ∧ ∀ j, j < i → recR (bs.take (atR bs K) ++ z) j = recR bs j := by
  intro i
  induction i with
  | zero => intro _; exact ⟨rfl, fun j hj => absurd hj (by omega)⟩
  | succ i ih =>
    intro hi
    obtain ⟨h1, h2⟩ := ih (by omega)
    have hm : (recR bs i).n ≠ 0 := (h i (by omega)).1
    have hle : atR bs (i + 1) ≤ atR bs K := atR_mono bs hi
    have hK := atR_le bs K
    rw [atR_succ] at hle
    have key : recR (bs.take (atR bs K) ++ z) i = recR bs i := by
      unfold recR
      rw [h1]
      have e1 : (bs.take (atR bs K) ++ z).drop (atR bs i) = (bs.drop (atR bs i)).take (recR bs i).n ++ (((bs.drop (atR bs i)).take (atR bs K - atR bs i)).drop (recR bs i).n ++ z) := by
        rw [List.drop_append_of_le_length (by rw [List.length_take]; omega), List.drop_take, ← List.append_assoc]
        congr 1
        rw [show (bs.drop (atR bs i)).take (recR bs i).n = ((bs.drop (atR bs i)).take (atR bs K - atR bs i)).take (recR bs i).n by rw [List.take_take, Nat.min_eq_left (by omega)], List.take_append_drop]
      rw [e1]
      exact dec_same (l := bs.drop (atR bs i)) hm _
    refine ⟨by rw [atR_succ, atR_succ, h1, key], fun j hj => ?_⟩
    by_cases e : j = i
    · rw [e]; exact key
    · exact h2 j (by omega)
theorem repR_congr {a b : List UInt8} {K : Nat} (h : ∀ j, j < K → recR a j = recR b j) : repR a K = repR b K := by
  unfold repR
  refine List.map_congr_left (fun j hj => ?_)
  rw [h j (List.mem_range.1 hj)]
/-- what stands behind the sound part is the next to be read -/
theorem sound_next {bs : List UInt8} {K : Nat} (h : ∀ i, i < K → okR bs i) (z : List UInt8) : recR (bs.take (atR bs K) ++ z) K = decOf z := by
  obtain ⟨h1, _⟩ := sound_behind h z K (Nat.le_refl _)
  unfold recR
  rw [h1, List.drop_left' (by rw [List.length_take]; have := atR_le bs K; omega)]
theorem sound_ok {bs : List UInt8} {K : Nat} (h : ∀ i, i < K → okR bs i) (z : List UInt8) : ∀ i, i < K → okR (bs.take (atR bs K) ++ z) i := by
  intro i hi
  obtain ⟨_, h2⟩ := sound_behind h z K (Nat.le_refl _)
  unfold okR
  rw [h2 i hi]
  exact h i hi
theorem dec_nil : decOf [] = decErr 0 := rfl
/-- the sound part alone -/
theorem stops_alone {bs : List UInt8} {K : Nat} (h : Stops bs K) : Stops (bs.take (atR bs K)) K ∧ atR (bs.take (atR bs K)) K = atR bs K ∧ repR (bs.take (atR bs K)) K = repR bs K := by
  have e : bs.take (atR bs K) = bs.take (atR bs K) ++ [] := by rw [List.append_nil]
  obtain ⟨h1, h2⟩ := sound_behind h.1 [] K (Nat.le_refl _)
  refine ⟨⟨fun i hi => by rw [e]; exact sound_ok h.1 [] i hi, fun hh => ?_⟩, by rw [e]; exact h1, by rw [e]; exact repR_congr h2⟩
  rw [e] at hh
  have := hh.1
  rw [sound_next h.1 [], dec_nil] at this
  exact this rfl
/-- a record of the right number goes on -/
theorem stops_more {bs x : List UInt8} {K : Nat} (h : Stops bs K) {op no : Int} {id : List UInt8} (he : encOf (K : Int) op no id = (x, 0)) : Stops (bs.take (atR bs K) ++ x) (K + 1) ∧ atR (bs.take (atR bs K) ++ x) (K + 1) = atR bs K + x.length ∧ repR (bs.take (atR bs K) ++ x) (K + 1) = repR bs K ++ [((K : Int), op, no, id)] := by
  obtain ⟨h1, h2⟩ := sound_behind h.1 x K (Nat.le_refl _)
  have hn := sound_next h.1 x
  have hd := enc_dec he []
  rw [List.append_nil] at hd
  obtain ⟨g1, g2, g3, g4, g5⟩ := enc_inv he
  rw [hd] at hn
  have hx : x.length ≠ 0 := by rw [g5, recL_len]; omega
  have ha : atR (bs.take (atR bs K) ++ x) (K + 1) = atR bs K + x.length := by rw [atR_succ, h1, hn]
  refine ⟨⟨fun i hi => ?_, fun hh => ?_⟩, ha, ?_⟩
  · by_cases e : i = K
    · rw [e]; exact ⟨by rw [hn]; exact hx, by rw [hn]; simp⟩
    · exact sound_ok h.1 x i (by omega)
  · have := hh.1
    unfold recR at this
    rw [ha, List.drop_eq_nil_of_le (by rw [List.length_append, List.length_take]; have := atR_le bs K; omega), dec_nil] at this
    exact this rfl
  · rw [repR_succ, hn, repR_congr h2]
    unfold rcOf
    rw [show ((K : Int).toNat : Int) = K by simp, Int.toNat_of_nonneg (by omega), Int.toNat_of_nonneg g3.1]
/-- a record of another number doesn't -/
theorem stops_wrong {bs x : List UInt8} {K : Nat} (h : Stops bs K) {seq op no : Int} {id : List UInt8} (he : encOf seq op no id = (x, 0)) (hs : seq ≠ (K : Int)) : Stops (bs.take (atR bs K) ++ x) K ∧ atR (bs.take (atR bs K) ++ x) K = atR bs K ∧ repR (bs.take (atR bs K) ++ x) K = repR bs K := by
  obtain ⟨h1, h2⟩ := sound_behind h.1 x K (Nat.le_refl _)
  have hn := sound_next h.1 x
  have hd := enc_dec he []
  rw [List.append_nil] at hd
  obtain ⟨g1, g2, g3, g4, g5⟩ := enc_inv he
  rw [hd] at hn
  refine ⟨⟨sound_ok h.1 x, fun hh => ?_⟩, h1, repR_congr h2⟩
  have := hh.2
  rw [hn] at this
  dsimp only at this
  omega
end Go.Proofs.YtijnjgnckipghaaGreat
