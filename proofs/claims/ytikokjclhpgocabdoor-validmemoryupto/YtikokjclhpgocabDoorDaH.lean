/- What Parse answers to any text: the second of which it is a form, or the error. -/
import Derived.Test.YtikokjclhpgocabDoorDaG
namespace Go.Proofs.YtikokjclhpgocabDoor
open Go.RowKit
/-- l is a form of the second t -/
def IsForm (l : List UInt8) (t : Int) : Prop := 0 ≤ t ∧ t ≤ 253402300799 ∧ ∃ y m d, Valid y m d ∧ dayOf y m d = t / 86400 ∧ (l = showL (t / 86400) (t % 86400) y m d ∨ (y < 2070 ∧ l = dashL (t / 86400) (t % 86400) y m d) ∨ l = blankL (t / 86400) (t % 86400) y m d)
theorem dg_of {b : UInt8} {v : Int} (h : isDig b = true) (e : v = (b.toNat : Int) - 48) : dg v = b := by
  have := isDig_in h
  unfold dg
  rw [e, show 48 + ((b.toNat : Int) - 48).toNat = b.toNat by omega, UInt8.ofNat_toNat]
theorem dig1 {b : UInt8} (h : digs [b] = true) : [b] = [dg (numV [b])] ∧ 0 ≤ numV [b] ∧ numV [b] < 10 := by
  have hb : isDig b = true := by simpa [digs] using h
  have := isDig_in hb
  have e : numV [b] = (b.toNat : Int) - 48 := by simp [numV]
  rw [e, dg_of hb rfl]
  exact ⟨rfl, by omega, by omega⟩
theorem dig2 {b c : UInt8} (h : digs [b, c] = true) : [b, c] = D2 (numV [b, c]) ∧ 0 ≤ numV [b, c] ∧ numV [b, c] < 100 := by
  have hb : isDig b = true ∧ isDig c = true := by simpa [digs] using h
  have h1 := isDig_in hb.1
  have h2 := isDig_in hb.2
  have e : numV [b, c] = ((b.toNat : Int) - 48) * 10 + ((c.toNat : Int) - 48) := by simp [numV]
  refine ⟨?_, by omega, by omega⟩
  unfold D2
  rw [dg_of (v := numV [b, c] / 10) hb.1 (by omega), dg_of (v := numV [b, c] % 10) hb.2 (by omega)]
theorem dig4 {a b c d : UInt8} (h : digs [a, b, c, d] = true) : [a, b, c, d] = D4 (numV [a, b, c, d]) ∧ 0 ≤ numV [a, b, c, d] ∧ numV [a, b, c, d] < 10000 := by
  have hb : isDig a = true ∧ isDig b = true ∧ isDig c = true ∧ isDig d = true := by simpa [digs] using h
  obtain ⟨k1, k2, k3, k4⟩ := hb
  have h1 := isDig_in k1
  have h2 := isDig_in k2
  have h3 := isDig_in k3
  have h4 := isDig_in k4
  have e : numV [a, b, c, d] = ((((a.toNat : Int) - 48) * 10 + ((b.toNat : Int) - 48)) * 10 + ((c.toNat : Int) - 48)) * 10 + ((d.toNat : Int) - 48) := by simp [numV]
  refine ⟨?_, by omega, by omega⟩
  unfold D4
  rw [dg_of (v := numV [a, b, c, d] / 1000) k1 (by omega), dg_of (v := numV [a, b, c, d] / 100 % 10) k2 (by omega), dg_of (v := numV [a, b, c, d] / 10 % 10) k3 (by omega), dg_of (v := numV [a, b, c, d] % 10) k4 (by omega)]
theorem num_any (x : ByteArray) (h : x.size ≤ 8) : NumIs x (numB x.data.toList) (digs x.data.toList) := ⟨h, rfl, rfl⟩
theorem numB_true {l : List UInt8} (h : digs l = true) : numB l = numV l := by unfold numB; rw [h, if_pos rfl]
theorem first_mo (x : ByteArray) : ∃ j, j ≤ 12 ∧ (∀ k, k < j → ¬ moB k = x) ∧ (j < 12 → moB j = x) := by
  have key : ∀ n, n ≤ 12 → (∃ j, j < n ∧ (∀ k, k < j → ¬ moB k = x) ∧ moB j = x) ∨ (∀ k, k < n → ¬ moB k = x) := by
    intro n
    induction n with
    | zero => intro _; exact .inr (fun k hk => by omega)
    | succ n ih =>
      intro hn
      rcases ih (by omega) with ⟨j, hj, h1, h2⟩ | h
      · exact .inl ⟨j, by omega, h1, h2⟩
      · by_cases e : moB n = x
        · exact .inl ⟨n, by omega, h, e⟩
        · refine .inr (fun k hk => ?_)
          by_cases hkn : k = n
          · rw [hkn]; exact e
          · exact h k (by omega)
  rcases key 12 (Nat.le_refl _) with ⟨j, hj, h1, h2⟩ | h
  · exact ⟨j, by omega, h1, fun _ => h2⟩
  · exact ⟨12, Nat.le_refl _, h, fun h => by omega⟩
theorem month_any (x : ByteArray) : ∃ (m : Int) (b : Bool), (∀ w, Vars w → Calls Tryd.prog 31 #[.string x] w fun e w' => e = .returned (.tuple #[.int .i64 m, .bool b]) ∧ w' = w) ∧ (b = true → 1 ≤ m ∧ m ≤ 12 ∧ x.data.toList = moL m) := by
  obtain ⟨j, hj, h1, h2⟩ := first_mo x
  by_cases hl : j < 12
  · refine ⟨(j : Int) + 1, true, fun w V => monthOfCode x j hj h1 h2 _ _ (.inl ⟨hl, rfl, rfl⟩) w V, fun _ => ⟨by omega, by omega, ?_⟩⟩
    rw [← h2 hl]
    unfold moL moB
    rw [show ((j : Int) + 1 - 1).toNat = j by omega]
  · exact ⟨0, false, fun w V => monthOfCode x j hj h1 h2 _ _ (.inr ⟨by omega, rfl, rfl⟩) w V, fun h => by cases h⟩
theorem clock_any (x : ByteArray) (hx : x.size = 8) : ∃ (c : Int) (b : Bool), (∀ w, Calls Tryd.prog 32 #[.string x] w fun e w' => e = .returned (.tuple #[.int .i64 c, .bool b]) ∧ w' = w) ∧ (b = true → 0 ≤ c ∧ c < 86400 ∧ x.data.toList = hmsL c) := by
  by_cases h2 : (x[2].toNat : Int) = 58
  · by_cases h5 : (x[5].toNat : Int) = 58
    · have n1 := num_any (x.extract 0 2) (by rw [ByteArray.size_extract]; omega)
      have n2 := num_any (x.extract 3 5) (by rw [ByteArray.size_extract]; omega)
      have n3 := num_any (x.extract 6 8) (by rw [ByteArray.size_extract]; omega)
      by_cases hg : digs (x.extract 0 2).data.toList = true ∧ digs (x.extract 3 5).data.toList = true ∧ digs (x.extract 6 8).data.toList = true ∧ numB (x.extract 0 2).data.toList ≤ 23 ∧ numB (x.extract 3 5).data.toList ≤ 59 ∧ numB (x.extract 6 8).data.toList ≤ 59
      · obtain ⟨g1, g2, g3, g4, g5, g6⟩ := hg
        rw [g1] at n1
        rw [g2] at n2
        rw [g3] at n3
        have hl : x.data.toList.length = 8 := by have : x.data.toList.length = x.size := by simp
                                                 omega
        obtain ⟨b0, b1, b2, b3, b4, b5, b6, b7, e⟩ : ∃ b0 b1 b2 b3 b4 b5 b6 b7, x.data.toList = [b0, b1, b2, b3, b4, b5, b6, b7] := by
          match h : x.data.toList, hl with
          | [b0, b1, b2, b3, b4, b5, b6, b7], _ => exact ⟨b0, b1, b2, b3, b4, b5, b6, b7, rfl⟩
        obtain rfl := ba_ofD e
        rw [ext_lit _ 0 2 [b0, b1] rfl] at n1 g1 g4
        rw [ext_lit _ 3 5 [b3, b4] rfl] at n2 g2 g5
        rw [ext_lit _ 6 8 [b6, b7] rfl] at n3 g3 g6
        obtain ⟨p1, p2, p3⟩ := dig2 g1
        obtain ⟨q1, q2, q3⟩ := dig2 g2
        obtain ⟨r1, r2, r3⟩ := dig2 g3
        have v1 : numB (⟨[b0, b1].toArray⟩ : ByteArray).data.toList = numV [b0, b1] := numB_true g1
        have v2 : numB (⟨[b3, b4].toArray⟩ : ByteArray).data.toList = numV [b3, b4] := numB_true g2
        have v3 : numB (⟨[b6, b7].toArray⟩ : ByteArray).data.toList = numV [b6, b7] := numB_true g3
        rw [v1] at n1 g4
        rw [v2] at n2 g5
        rw [v3] at n3 g6
        have c2 : b2 = 58 := UInt8.toNat_inj.1 (by have : (b2.toNat : Int) = 58 := h2; simpa using (show b2.toNat = 58 by omega))
        have c5 : b5 = 58 := UInt8.toNat_inj.1 (by have : (b5.toNat : Int) = 58 := h5; simpa using (show b5.toNat = 58 by omega))
        generalize numV [b0, b1] = a1 at *
        generalize numV [b3, b4] = a2 at *
        generalize numV [b6, b7] = a3 at *
        refine ⟨a1 * 3600 + a2 * 60 + a3, true, fun w => clockCode_yes _ hx h2 h5 a1 a2 a3 (by rw [ext_lit _ 0 2 [b0, b1] rfl]; exact n1) (by rw [ext_lit _ 3 5 [b3, b4] rfl]; exact n2) (by rw [ext_lit _ 6 8 [b6, b7] rfl]; exact n3) p2 q2 r2 g4 g5 g6 w, fun _ => ⟨by omega, by omega, ?_⟩⟩
        unfold hmsL
        rw [show (a1 * 3600 + a2 * 60 + a3) / 3600 = a1 by omega, show (a1 * 3600 + a2 * 60 + a3) / 60 % 60 = a2 by omega, show (a1 * 3600 + a2 * 60 + a3) % 60 = a3 by omega, ← p1, ← q1, ← r1]
        show [b0, b1, b2, b3, b4, b5, b6, b7] = _
        rw [c2, c5]
        rfl
      · refine ⟨0, false, fun w => clockCode_no2 x hx h2 h5 _ _ _ _ _ _ n1 n2 n3 ?_ w, fun h => by cases h⟩
        cases g1 : digs (x.extract 0 2).data.toList with
        | false => exact .inl rfl
        | true =>
          cases g2 : digs (x.extract 3 5).data.toList with
          | false => exact .inr (.inl ⟨rfl, rfl⟩)
          | true =>
            cases g3 : digs (x.extract 6 8).data.toList with
            | false => exact .inr (.inr (.inl ⟨rfl, rfl, rfl⟩))
            | true =>
              by_cases q1 : numB (x.extract 0 2).data.toList ≤ 23
              · by_cases q2 : numB (x.extract 3 5).data.toList ≤ 59
                · by_cases q3 : numB (x.extract 6 8).data.toList ≤ 59
                  · exact absurd ⟨g1, g2, g3, q1, q2, q3⟩ hg
                  · exact .inr (.inr (.inr (.inr (.inr ⟨rfl, rfl, rfl, q1, q2, by omega⟩))))
                · exact .inr (.inr (.inr (.inr (.inl ⟨rfl, rfl, rfl, q1, by omega⟩))))
              · exact .inr (.inr (.inr (.inl ⟨rfl, rfl, rfl, by omega⟩)))
    · exact ⟨0, false, fun w => clockCode_no1 x hx (.inr ⟨h2, h5⟩) w, fun h => by cases h⟩
  · exact ⟨0, false, fun w => clockCode_no1 x hx (.inl h2) w, fun h => by cases h⟩
/-- what a call of Parse answers -/
def Ans (s : ByteArray) (v e : Int) : Prop := ∀ w, Vars w → MaxVD w → Calls Tryd.prog 17 #[.string s] w fun x w' => x = .returned (.tuple #[.int .i64 v, .int .i64 e]) ∧ Below w.heap.size w w'
/-- the parts are read, and the whole is a form: by what the parts are -/
theorem parse_parts (s p1 p2 p3 p4 p5 : ByteArray) (p6 : Bool) (h2 : p2.size ≤ 8) (h4 : p4.size ≤ 8) (h5 : p5.size = 8)
    (cs : ∀ w, MaxVD w → Calls Tryd.prog 29 #[.string s] w fun e w' => e = .returned (.tuple #[partsV p1 p2 p3 p4 p5 p6, .bool true]) ∧ Below w.heap.size w w')
    (sound : ∀ y m d c, Valid y m d → 0 ≤ c → c < 86400 → digs p4.data.toList = true → y = numV p4.data.toList → p3.data.toList = moL m → digs p2.data.toList = true → d = numV p2.data.toList → p5.data.toList = hmsL c → p1 = nameB (dayOf y m d) p6 →
      s.data.toList = showL (dayOf y m d) c y m d ∨ (y < 2070 ∧ s.data.toList = dashL (dayOf y m d) c y m d) ∨ s.data.toList = blankL (dayOf y m d) c y m d) :
    Ans s 0 20 ∨ ∃ t, IsForm s.data.toList t ∧ Ans s t 0 := by
  obtain ⟨m, mb, cm, hm⟩ := month_any p3
  obtain ⟨c, cb, cc, hc⟩ := clock_any p5 h5
  have ny := num_any p4 h4
  have nd := num_any p2 h2
  cases g1 : digs p4.data.toList with
  | false =>
    rw [g1] at ny
    exact .inl (fun w V M => parse_no2 s p1 p2 p3 p4 p5 p6 _ m _ c false mb _ cb ⟨ny, cm, nd, cc⟩ (.inl rfl) w V (cs w M))
  | true =>
    cases mb with
    | false => rw [g1] at ny; exact .inl (fun w V M => parse_no2 s p1 p2 p3 p4 p5 p6 _ m _ c true false _ cb ⟨ny, cm, nd, cc⟩ (.inr (.inl ⟨rfl, rfl⟩)) w V (cs w M))
    | true =>
      cases g2 : digs p2.data.toList with
      | false => rw [g1] at ny; rw [g2] at nd; exact .inl (fun w V M => parse_no2 s p1 p2 p3 p4 p5 p6 _ m _ c true true false cb ⟨ny, cm, nd, cc⟩ (.inr (.inr (.inl ⟨rfl, rfl, rfl⟩))) w V (cs w M))
      | true =>
        cases cb with
        | false => rw [g1] at ny; rw [g2] at nd; exact .inl (fun w V M => parse_no2 s p1 p2 p3 p4 p5 p6 _ m _ c true true true false ⟨ny, cm, nd, cc⟩ (.inr (.inr (.inr ⟨rfl, rfl, rfl, rfl⟩))) w V (cs w M))
        | true =>
          rw [g1, numB_true g1] at ny
          rw [g2, numB_true g2] at nd
          by_cases hv : Valid (numV p4.data.toList) m (numV p2.data.toList)
          · obtain ⟨c0, c1, c2⟩ := hc rfl
            by_cases hn : p1 = nameB (dayOf (numV p4.data.toList) m (numV p2.data.toList)) p6
            · have hs := sound _ m _ c hv c0 c1 g1 rfl (hm rfl).2.2 g2 rfl c2 hn
              have hr := dayOf_range hv
              refine .inr ⟨dayOf (numV p4.data.toList) m (numV p2.data.toList) * 86400 + c, ⟨by omega, by omega, _, m, _, hv, by omega, ?_⟩, fun w V M => parse_end s p1 p2 p3 p4 p5 p6 _ m _ c ⟨ny, cm, nd, cc⟩ hv c0 c1 _ _ (.inl ⟨hn, rfl, rfl⟩) w V (cs w M)⟩
              rw [show (dayOf (numV p4.data.toList) m (numV p2.data.toList) * 86400 + c) / 86400 = dayOf (numV p4.data.toList) m (numV p2.data.toList) by omega, show (dayOf (numV p4.data.toList) m (numV p2.data.toList) * 86400 + c) % 86400 = c by omega]
              exact hs
            · exact .inl (fun w V M => parse_end s p1 p2 p3 p4 p5 p6 _ m _ c ⟨ny, cm, nd, cc⟩ hv c0 c1 _ _ (.inr ⟨hn, rfl, rfl⟩) w V (cs w M))
          · exact .inl (fun w V M => parse_no3 s p1 p2 p3 p4 p5 p6 _ m _ c ⟨ny, cm, nd, cc⟩ hv w V (cs w M))
end Go.Proofs.YtikokjclhpgocabDoor
