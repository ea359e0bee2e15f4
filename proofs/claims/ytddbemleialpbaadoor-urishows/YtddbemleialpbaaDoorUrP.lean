/- Layer 3 in plain words: hosts, ports, codes, segments, and what an address says; nothing of the program is named here. -/
import Derived.Test.YtddbemleialpbaaDoorPlain
import Derived.Lib.Join
namespace Go.Proofs.YtddbemleialpbaaDoor
open Go.RowKit
def alnumI (c : Int) : Bool := decide ((48 ≤ c ∧ c ≤ 57) ∨ (65 ≤ c ∧ c ≤ 90) ∨ (97 ≤ c ∧ c ≤ 122))
def hostI (c : Int) : Bool := alnumI c || decide (c = 45) || decide (c = 46)
def hostB (c : UInt8) : Bool := hostI (c.toNat : Int)
def isHost (l : List UInt8) : Bool := l.all hostB && decide (1 ≤ l.length) && decide (l.length ≤ 255)
def addrI (c : Int) : Bool := decide (33 ≤ c ∧ c ≤ 126 ∧ c ≠ 35)
def addrB (c : UInt8) : Bool := addrI (c.toNat : Int)
def digB (c : UInt8) : Bool := decide (48 ≤ (c.toNat : Int) ∧ (c.toNat : Int) ≤ 57)
def numOf (l : List UInt8) : Int := l.foldl (fun v c => v * 10 + ((c.toNat : Int) - 48)) 0
def portOf (l : List UInt8) : Int := if l.length ≤ 5 ∧ l.all digB = true ∧ numOf l ≤ 65535 then numOf l else 0
def hexI (c : Int) : Int := if 48 ≤ c ∧ c ≤ 57 then c - 48 else if 65 ≤ c ∧ c ≤ 70 then c - 55 else if 97 ≤ c ∧ c ≤ 102 then c - 87 else -1
def hexB (c : UInt8) : Int := hexI (c.toNat : Int)
def plainI (c : Int) : Bool := alnumI c || decide (c = 45) || decide (c = 46) || decide (c = 95) || decide (c = 126)
/-- the great digit of a number below 16 -/
def hxI (v : Int) : Int := if v < 10 then 48 + v else 55 + v
def ofI (v : Int) : UInt8 := UInt8.ofNat v.toNat
/-- what a code of two digits becomes -/
def code (a b : UInt8) : List UInt8 := if plainI (16 * hexB a + hexB b) then [ofI (16 * hexB a + hexB b)] else [37, ofI (hxI (hexB a)), ofI (hxI (hexB b))]
def recode : List UInt8 → Option (List UInt8)
  | [] => some []
  | [c] => if c = 37 then none else some [c]
  | [c, d] => if c = 37 then none else if d = 37 then none else some [c, d]
  | c :: a :: b :: l => if c = 37 then (if hexB a < 0 ∨ hexB b < 0 then none else (recode l).map (code a b ++ ·)) else (recode (a :: b :: l)).map (c :: ·)
/-- the text between the strokes -/
def pieces : List UInt8 → List (List UInt8)
  | [] => [[]]
  | c :: l => if c = 47 then [] :: pieces l else (c :: (pieces l).headD []) :: (pieces l).tail
def isDot (s : List UInt8) : Bool := decide (s = [46]) || decide (s = [46, 46])
def step (st : List (List UInt8)) (s : List UInt8) : List (List UInt8) := if s = [46] then st else if s = [46, 46] then st.dropLast else st ++ [s]
def left (ps : List (List UInt8)) : List (List UInt8) := ps.foldl step []
def lastDot (ps : List (List UInt8)) : Bool := isDot (ps.getLast?.getD [])
def shut (ps : List (List UInt8)) : List UInt8 := ps.flatMap (47 :: ·)
def tidyP (ps : List (List UInt8)) : List UInt8 := shut (left ps ++ if lastDot ps then [[]] else [])
def normPath (p : List UInt8) : List UInt8 := tidyP (pieces (p.drop 1))
def noAsk (c : UInt8) : Bool := decide (c ≠ 63)
def noCol (c : UInt8) : Bool := decide (c ≠ 58)
def noEnd (c : UInt8) : Bool := decide (c ≠ 47 ∧ c ≠ 63)
def normal (r : List UInt8) : List UInt8 := normPath (r.takeWhile noAsk) ++ r.dropWhile noAsk
def http : List UInt8 := [104, 116, 116, 112, 58, 47, 47]
def low (c : UInt8) : UInt8 := if 65 ≤ (c.toNat : Int) ∧ (c.toNat : Int) ≤ 90 then c + 32 else c
def lows (l : List UInt8) : List UInt8 := l.map low
structure Tgt where
  host : List UInt8
  port : Int
  path : List UInt8
def Tgt.none : Tgt := ⟨[], 0, []⟩
/-- what is read of the host's text and the port's -/
def hostOf (au : List UInt8) : List UInt8 := au.takeWhile noCol
def digsOf (au : List UInt8) : List UInt8 := (au.dropWhile noCol).drop 1
def portSaid (d : List UInt8) : Int := if d = [] then 80 else portOf d
def readRest (h : List UInt8) (p : Int) (r : Option (List UInt8)) : Tgt × Int := match r with
  | .none => (Tgt.none, 30)
  | some r => (⟨lows h, p, normal r⟩, 0)
def readAu (au rest : List UInt8) : Tgt × Int :=
  if isHost (hostOf au) = false then (Tgt.none, 32)
  else if portSaid (digsOf au) = 0 then (Tgt.none, 33)
  else readRest (hostOf au) (portSaid (digsOf au)) (recode rest)
def parseP (l : List UInt8) : Tgt × Int :=
  if 4096 < l.length then (Tgt.none, 101)
  else if l.all addrB = false then (Tgt.none, 30)
  else if lows (l.take 7) ≠ http then (Tgt.none, 31)
  else readAu ((l.drop 7).takeWhile noEnd) ((l.drop 7).dropWhile noEnd)
def authP (l : List UInt8) : Tgt × Int :=
  if 4096 < l.length then (Tgt.none, 101)
  else if isHost (hostOf l) = false then (Tgt.none, 32)
  else if portOf (digsOf l) = 0 then (Tgt.none, 33)
  else (⟨lows (hostOf l), portOf (digsOf l), []⟩, 0)
theorem recode_nil : recode [] = some [] := rfl
theorem recode_plain (c : UInt8) (l : List UInt8) (h : c ≠ 37) : recode (c :: l) = (recode l).map (c :: ·) := by
  match l with
  | [] => simp [recode, h]
  | [d] => by_cases e : d = 37 <;> simp [recode, h, e]
  | a :: b :: l => simp [recode, h]
theorem recode_code (a b : UInt8) (l : List UInt8) (ha : 0 ≤ hexB a) (hb : 0 ≤ hexB b) : recode (37 :: a :: b :: l) = (recode l).map (code a b ++ ·) := by
  simp [recode, Int.not_lt.2 ha, Int.not_lt.2 hb]
theorem recode_bad (a b : UInt8) (l : List UInt8) (h : hexB a < 0 ∨ hexB b < 0) : recode (37 :: a :: b :: l) = none := by
  simp [recode, h]
theorem recode_short (l : List UInt8) (h : l.length < 2) : recode (37 :: l) = none := by
  match l with
  | [] => simp [recode]
  | [d] => simp [recode]
  | a :: b :: l => simp at h; omega
theorem pieces_ne (l : List UInt8) : pieces l ≠ [] := by
  cases l with
  | nil => simp [pieces]
  | cons c l => unfold pieces; split <;> simp
theorem pieces_snoc_stroke (l : List UInt8) : pieces (l ++ [47]) = pieces l ++ [[]] := by
  induction l with
  | nil => simp [pieces]
  | cons c l ih =>
    have hne := pieces_ne l
    by_cases h : c = 47
    · subst h; simp [pieces, ih]
    · simp [pieces, h, ih]
      cases hp : pieces l with
      | nil => exact absurd hp hne
      | cons p ps => simp
theorem pieces_snoc (l : List UInt8) (c : UInt8) (h : c ≠ 47) : pieces (l ++ [c]) = (pieces l).dropLast ++ [(pieces l).getLast?.getD [] ++ [c]] := by
  induction l with
  | nil => simp [pieces, h]
  | cons d l ih =>
    have hne := pieces_ne l
    cases hp : pieces l with
    | nil => exact absurd hp hne
    | cons p ps =>
      rw [hp] at ih
      by_cases e : d = 47
      · subst e; simp [pieces, ih, hp]
      · cases ps with
        | nil => simp [pieces, e, ih, hp]
        | cons q qs => simp [pieces, e, ih, hp]
theorem pieces_split (a b : List UInt8) (h : ∀ c ∈ a, c ≠ 47) : pieces (a ++ 47 :: b) = a :: pieces b := by
  induction a with
  | nil => simp [pieces]
  | cons c a ih =>
    have h1 : c ≠ 47 := h c (by simp)
    have := ih (fun d hd => h d (by simp [hd]))
    simp [pieces, h1, this]
theorem pieces_one (a : List UInt8) (h : ∀ c ∈ a, c ≠ 47) : pieces a = [a] := by
  induction a with
  | nil => simp [pieces]
  | cons c a ih =>
    have h1 : c ≠ 47 := h c (by simp)
    have := ih (fun d hd => h d (by simp [hd]))
    simp [pieces, h1, this]
theorem shut_snoc (ps : List (List UInt8)) (s : List UInt8) : shut (ps ++ [s]) = shut ps ++ 47 :: s := by simp [shut]
theorem left_snoc (ps : List (List UInt8)) (s : List UInt8) : left (ps ++ [s]) = step (left ps) s := by simp [left]
theorem lastDot_snoc (ps : List (List UInt8)) (s : List UInt8) : lastDot (ps ++ [s]) = isDot s := by simp [lastDot]
theorem shut_nil {ps : List (List UInt8)} (h : shut ps = []) : ps = [] := by
  cases ps with
  | nil => rfl
  | cons p ps => simp [shut] at h
/-- the two ways to end a path agree -/
theorem tidy_ref (ps : List (List UInt8)) (hne : ps ≠ []) : tidyP ps = (if lastDot ps = true ∨ shut (left ps) = [] then shut (left ps) ++ [47] else shut (left ps)) := by
  unfold tidyP
  by_cases h : lastDot ps = true
  · rw [if_pos h, if_pos (.inl h), shut_snoc]
  · rw [if_neg h, List.append_nil]
    have h2 : left ps ≠ [] := by
      rcases List.eq_nil_or_concat ps with e | ⟨qs, q, e⟩
      · exact absurd e hne
      · subst e
        rw [List.concat_eq_append] at h ⊢
        rw [lastDot_snoc] at h
        rw [left_snoc]
        unfold isDot at h
        unfold step
        simp at h
        rw [if_neg h.1, if_neg h.2]
        simp
    rw [if_neg]
    rintro (x | x)
    · exact h x
    · exact h2 (shut_nil x)
/-- "/" and the texts with "/" between -/
theorem shut_join (ps : List (List UInt8)) (h : ps ≠ []) : shut ps = 47 :: Lib.join ps [47] := by
  cases ps with
  | nil => exact absurd rfl h
  | cons p ps =>
    rw [Lib.join_cons]
    simp only [shut, Lib.joinTail, List.flatMap_cons, List.cons_append, List.nil_append]
    rw [List.flatMap_def]
theorem low_up (c : UInt8) (h1 : 65 ≤ (c.toNat : Int)) (h2 : (c.toNat : Int) ≤ 90) : ((low c).toNat : Int) = (c.toNat : Int) + 32 := by
  unfold low; rw [if_pos ⟨h1, h2⟩, UInt8.toNat_add]
  have : (32 : UInt8).toNat = 32 := rfl
  rw [this]; omega
theorem low_same (c : UInt8) (h : ¬ (65 ≤ (c.toNat : Int) ∧ (c.toNat : Int) ≤ 90)) : low c = c := by unfold low; rw [if_neg h]
theorem lows_snoc (l : List UInt8) (c : UInt8) : lows (l ++ [c]) = lows l ++ [low c] := by simp [lows]
theorem lows_len (l : List UInt8) : (lows l).length = l.length := by simp [lows]
end Go.Proofs.YtddbemleialpbaaDoor
