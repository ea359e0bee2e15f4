/- What Parse answers to any text. -/
import Derived.Test.YtikokjclhpgocabDoorDaI
namespace Go.Proofs.YtikokjclhpgocabDoor
open Go.RowKit
theorem zeroP_eq : zeroP = partsV ⟨#[]⟩ ⟨#[]⟩ ⟨#[]⟩ ⟨#[]⟩ ⟨#[]⟩ false := rfl
theorem ext_size (s : ByteArray) (i j : Nat) (h : j ≤ s.size) : (s.extract i j).size = j - i := by rw [ByteArray.size_extract, Nat.min_eq_left h]
theorem any29 (s : ByteArray) (hs : s.size = 29) : Ans s 0 20 ∨ ∃ t, IsForm s.data.toList t ∧ Ans s t 0 := by
  have no : (¬ s.extract 3 5 = ⟨#[44, 32]⟩ ∨ (s.extract 3 5 = ⟨#[44, 32]⟩ ∧ ¬ (s[7].toNat : Int) = 32) ∨ (s.extract 3 5 = ⟨#[44, 32]⟩ ∧ (s[7].toNat : Int) = 32 ∧ ¬ (s[11].toNat : Int) = 32) ∨
      (s.extract 3 5 = ⟨#[44, 32]⟩ ∧ (s[7].toNat : Int) = 32 ∧ (s[11].toNat : Int) = 32 ∧ ¬ (s[16].toNat : Int) = 32) ∨ (s.extract 3 5 = ⟨#[44, 32]⟩ ∧ (s[7].toNat : Int) = 32 ∧ (s[11].toNat : Int) = 32 ∧ (s[16].toNat : Int) = 32 ∧ ¬ s.extract 25 29 = ⟨#[32, 71, 77, 84]⟩)) → Ans s 0 20 :=
    fun h w _ _ => parse_no1 s _ _ _ _ _ _ w (split29 s hs _ _ _ _ _ _ _ w (fun W _ => splitShown_no s hs h W))
  by_cases e1 : s.extract 3 5 = ⟨#[44, 32]⟩
  · by_cases e2 : (s[7].toNat : Int) = 32
    · by_cases e3 : (s[11].toNat : Int) = 32
      · by_cases e4 : (s[16].toNat : Int) = 32
        · by_cases e5 : s.extract 25 29 = ⟨#[32, 71, 77, 84]⟩
          · exact parse_parts s _ _ _ _ _ false (by rw [ext_size _ _ _ (by omega)]; omega) (by rw [ext_size _ _ _ (by omega)]; omega) (by rw [ext_size _ _ _ (by omega)])
              (fun w _ => split29 s hs _ _ _ _ _ _ _ w (fun W _ => splitShown_yes s hs e1 e2 e3 e4 e5 W))
              (fun y m d c _ _ _ g1 hy hm g2 hd hc hn => .inl (sound29 s hs e1 e2 e3 e4 e5 (dayOf y m d) y m d c g1 hy hm g2 hd hc hn))
          · exact .inl (no (.inr (.inr (.inr (.inr ⟨e1, e2, e3, e4, e5⟩)))))
        · exact .inl (no (.inr (.inr (.inr (.inl ⟨e1, e2, e3, e4⟩)))))
      · exact .inl (no (.inr (.inr (.inl ⟨e1, e2, e3⟩))))
    · exact .inl (no (.inr (.inl ⟨e1, e2⟩)))
  · exact .inl (no (.inl e1))
theorem any24 (s : ByteArray) (hs : s.size = 24) : Ans s 0 20 ∨ ∃ t, IsForm s.data.toList t ∧ Ans s t 0 := by
  obtain ⟨x, hx⟩ : ∃ x, s.extract 8 10 = x := ⟨_, rfl⟩
  have zx : x.size = 2 := by rw [← hx, ext_size _ _ _ (by omega)]
  have no : ((¬ (s[3].toNat : Int) = 32) ∨ ((s[3].toNat : Int) = 32 ∧ ¬ (s[7].toNat : Int) = 32) ∨ ((s[3].toNat : Int) = 32 ∧ (s[7].toNat : Int) = 32 ∧ ¬ (s[10].toNat : Int) = 32) ∨ ((s[3].toNat : Int) = 32 ∧ (s[7].toNat : Int) = 32 ∧ (s[10].toNat : Int) = 32 ∧ ¬ (s[19].toNat : Int) = 32) ∨ ((s[3].toNat : Int) = 32 ∧ (s[7].toNat : Int) = 32 ∧ (s[10].toNat : Int) = 32 ∧ (s[19].toNat : Int) = 32 ∧ (x[0].toNat : Int) = 48)) → Ans s 0 20 :=
    fun h w _ _ => parse_no1 s _ _ _ _ _ _ w (split24 s hs _ _ _ _ _ _ _ w (fun W _ => splitBlank_no s x hs hx zx h W))
  by_cases e1 : (s[3].toNat : Int) = 32
  · by_cases e2 : (s[7].toNat : Int) = 32
    · by_cases e3 : (s[10].toNat : Int) = 32
      · by_cases e4 : (s[19].toNat : Int) = 32
        · by_cases e5 : (x[0].toNat : Int) = 48
          · exact .inl (no (.inr (.inr (.inr (.inr ⟨e1, e2, e3, e4, e5⟩)))))
          · obtain ⟨dl, hq, hz⟩ : ∃ dl : ByteArray, (((x[0].toNat : Int) = 32 ∧ dl = x.extract 1 2) ∨ (¬ (x[0].toNat : Int) = 32 ∧ ¬ (x[0].toNat : Int) = 48 ∧ dl = x)) ∧ dl.size ≤ 8 := by
              by_cases e6 : (x[0].toNat : Int) = 32
              · exact ⟨_, .inl ⟨e6, rfl⟩, by rw [ext_size _ _ _ (by omega)]; omega⟩
              · exact ⟨_, .inr ⟨e6, e5, rfl⟩, by omega⟩
            exact parse_parts s _ dl _ _ _ false hz (by rw [ext_size _ _ _ (by omega)]; omega) (by rw [ext_size _ _ _ (by omega)])
              (fun w _ => split24 s hs _ _ _ _ _ _ _ w (fun W _ => splitBlank_yes s x dl hs e1 e2 e3 e4 hx zx hq W))
              (fun y m d c _ _ _ g1 hy hm g2 hd hc hn => .inr (.inr (sound24 s hs e1 e2 e3 e4 x dl hx zx hq (dayOf y m d) y m d c g1 hy hm g2 hd hc hn)))
        · exact .inl (no (.inr (.inr (.inr (.inl ⟨e1, e2, e3, e4⟩)))))
      · exact .inl (no (.inr (.inr (.inl ⟨e1, e2, e3⟩))))
    · exact .inl (no (.inr (.inl ⟨e1, e2⟩)))
  · exact .inl (no (.inl e1))
theorem anyOther (s : ByteArray) (hs : s.size < 4294967281) (h29 : ¬ s.size = 29) (h24 : ¬ s.size = 24) : Ans s 0 20 ∨ ∃ t, IsForm s.data.toList t ∧ Ans s t 0 := by
  have cC := cutCode s hs
  have sd := cut_sound s.data.toList
  obtain ⟨a, ha⟩ : ∃ a : ByteArray, a = ⟨(Lib.cut s.data.toList [44, 32]).1.toArray⟩ := ⟨_, rfl⟩
  obtain ⟨b, hb⟩ : ∃ b : ByteArray, b = ⟨(Lib.cut s.data.toList [44, 32]).2.1.toArray⟩ := ⟨_, rfl⟩
  rw [← ha, ← hb] at cC
  have ha' : a.data.toList = (Lib.cut s.data.toList [44, 32]).1 := by rw [ha]
  have hb' : b.data.toList = (Lib.cut s.data.toList [44, 32]).2.1 := by rw [hb]
  rw [← ha', ← hb'] at sd
  clear ha hb ha' hb'
  cases hf : (Lib.cut s.data.toList [44, 32]).2.2 with
  | false =>
    rw [hf] at cC
    exact .inl (fun w V M => parse_no1 s _ _ _ _ _ _ w (splitOther s h29 h24 _ _ _ _ _ _ _ w (fun W hW => splitDashed_no0 s a b false (.inl rfl) W (cC W (M.below hW)))))
  | true =>
    rw [hf] at cC
    have hsd := sd hf
    by_cases hb : b.size = 22
    · have no : ((¬ (b[2].toNat : Int) = 45) ∨ ((b[2].toNat : Int) = 45 ∧ ¬ (b[6].toNat : Int) = 45) ∨ ((b[2].toNat : Int) = 45 ∧ (b[6].toNat : Int) = 45 ∧ ¬ (b[9].toNat : Int) = 32) ∨ ((b[2].toNat : Int) = 45 ∧ (b[6].toNat : Int) = 45 ∧ (b[9].toNat : Int) = 32 ∧ ¬ b.extract 18 22 = ⟨#[32, 71, 77, 84]⟩)) → Ans s 0 20 :=
        fun h w V M => parse_no1 s _ _ _ _ _ _ w (splitOther s h29 h24 _ _ _ _ _ _ _ w (fun W hW => splitDashed_no1 s a b hb h W (cC W (M.below hW))))
      by_cases e1 : (b[2].toNat : Int) = 45
      · by_cases e2 : (b[6].toNat : Int) = 45
        · by_cases e3 : (b[9].toNat : Int) = 32
          · by_cases e4 : b.extract 18 22 = ⟨#[32, 71, 77, 84]⟩
            · obtain ⟨ce, hce, hz⟩ : ∃ ce : ByteArray, ((55 ≤ (b[7].toNat : Int) ∧ ce = ⟨#[49, 57]⟩) ∨ ((b[7].toNat : Int) < 55 ∧ ce = ⟨#[50, 48]⟩)) ∧ ce.size = 2 := by
                by_cases e5 : 55 ≤ (b[7].toNat : Int)
                · exact ⟨_, .inl ⟨e5, rfl⟩, rfl⟩
                · exact ⟨_, .inr ⟨by omega, rfl⟩, rfl⟩
              exact parse_parts s a _ _ _ _ true (by rw [ext_size _ _ _ (by omega)]; omega) (by rw [ByteArray.size_append, hz, ext_size _ _ _ (by omega)]; omega) (by rw [ext_size _ _ _ (by omega)])
                (fun w M => splitOther s h29 h24 _ _ _ _ _ _ _ w (fun W hW => splitDashed_yes s a b ce hb e1 e2 e3 e4 hce W (cC W (M.below hW))))
                (fun y m d c _ _ _ g1 hy hm g2 hd hc hn => .inr (.inl (soundOther s a b ce hsd hb e1 e2 e3 e4 hce (dayOf y m d) y m d c g1 hy hm g2 hd hc hn)))
            · exact .inl (no (.inr (.inr (.inr ⟨e1, e2, e3, e4⟩))))
          · exact .inl (no (.inr (.inr (.inl ⟨e1, e2, e3⟩))))
        · exact .inl (no (.inr (.inl ⟨e1, e2⟩)))
      · exact .inl (no (.inl e1))
    · exact .inl (fun w V M => parse_no1 s _ _ _ _ _ _ w (splitOther s h29 h24 _ _ _ _ _ _ _ w (fun W hW => splitDashed_no0 s a b true (.inr ⟨rfl, hb⟩) W (cC W (M.below hW)))))
theorem parse_any (s : ByteArray) (hs : s.size < 4294967281) : Ans s 0 20 ∨ ∃ t, IsForm s.data.toList t ∧ Ans s t 0 := by
  by_cases h29 : s.size = 29
  · exact any29 s h29
  · by_cases h24 : s.size = 24
    · exact any24 s h24
    · exact anyOther s hs h29 h24
theorem parse_of_form (s : ByteArray) (t : Int) (h : IsForm s.data.toList t) : Ans s t 0 := by
  obtain ⟨_, _, y, m, d, hv, hd, hl⟩ := h
  intro w V M
  rcases hl with hl | ⟨hy, hl⟩ | hl
  · rw [ba_ofD hl]; exact parse_show t y m d hv hd w V
  · rw [ba_ofD hl]; exact parse_dash t y m d hv hd hy w V M
  · rw [ba_ofD hl]; exact parse_blank t y m d hv hd w V
end Go.Proofs.YtikokjclhpgocabDoor
