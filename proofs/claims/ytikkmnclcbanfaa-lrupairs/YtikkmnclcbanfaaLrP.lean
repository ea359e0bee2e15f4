/- Plain: a bounded table as a list, the one used last first; what Put, Get, Drop make of it; its ring. -/
import Derived.Test.YtikkmnclcbanfaaDkM
namespace Go.Proofs.Ytikkmnclcbanfaa
open Go.RowKit
structure It (α : Type) where
  key : Nm
  v : α
  size : Int
variable {α : Type}
def usedT (l : List (It α)) : Int := (l.map (fun x => x.size)).sum
def withT (l : List (It α)) (k : Nm) : List (It α) := l.filter (fun x => decide (x.key ≠ k))
def findT (l : List (It α)) (k : Nm) : Option (It α) := l.find? (fun x => decide (x.key = k))
def keysT (l : List (It α)) : List Nm := l.map (fun x => x.key)
def fitN (l : List (It α)) (cap : Int) : Nat → Nat
  | 0 => 0
  | m + 1 => if usedT (l.take (m + 1)) ≤ cap then m + 1 else fitN l cap m
def fitT (l : List (It α)) (cap : Int) : Nat := fitN l cap l.length
def goneT (l : List (It α)) (m : Nat) : List Nm := (l.drop m).reverse.map (fun x => x.key)
def putOk (room size : Int) : Bool := decide (0 ≤ size ∧ size ≤ room)
def putT (room : Int) (l : List (It α)) (x : It α) : List (It α) :=
  if putOk room x.size then x :: (withT l x.key).take (fitT (withT l x.key) (room - x.size)) else l
def putG (room : Int) (l : List (It α)) (x : It α) : List Nm :=
  if putOk room x.size then goneT (withT l x.key) (fitT (withT l x.key) (room - x.size)) else []
def getT (l : List (It α)) (k : Nm) : List (It α) := match findT l k with | some x => x :: withT l k | none => l
structure TOk (room : Int) (l : List (It α)) : Prop where
  once : (keysT l).Nodup
  pos : ∀ x ∈ l, 0 ≤ x.size
  fit : usedT l ≤ room
  rm : 0 ≤ room ∧ room ≤ 1073741824
  len : ∀ x ∈ l, x.key.length ≤ 140737488351232
theorem used_nil : usedT ([] : List (It α)) = 0 := rfl
theorem used_cons (x : It α) (l : List (It α)) : usedT (x :: l) = x.size + usedT l := by simp [usedT]
theorem used_app (a b : List (It α)) : usedT (a ++ b) = usedT a + usedT b := by
  induction a with
  | nil => simp [used_nil]
  | cons x a ih => rw [List.cons_append, used_cons, used_cons, ih]; omega
theorem used_pos {l : List (It α)} (h : ∀ x ∈ l, 0 ≤ x.size) : 0 ≤ usedT l := by
  induction l with
  | nil => simp [used_nil]
  | cons x l ih =>
    rw [used_cons]
    have h1 := h x (by simp)
    have h2 := ih (fun y hy => h y (by simp [hy]))
    omega
theorem used_sub {l l' : List (It α)} (hs : l'.Sublist l) (h : ∀ x ∈ l, 0 ≤ x.size) : usedT l' ≤ usedT l := by
  induction hs with
  | slnil => exact Int.le_refl _
  | cons x _ ih =>
    rw [used_cons]
    have h1 := h x (by simp)
    have h2 := ih (fun y hy => h y (by simp [hy]))
    omega
  | cons_cons x _ ih =>
    rw [used_cons, used_cons]
    have h2 := ih (fun y hy => h y (by simp [hy]))
    omega
theorem tok_sub {room : Int} {l l' : List (It α)} (h : TOk room l) (hs : l'.Sublist l) : TOk room l' :=
  ⟨h.once.sublist (hs.map _), fun x hx => h.pos x (hs.subset hx), Int.le_trans (used_sub hs h.pos) h.fit, h.rm, fun x hx => h.len x (hs.subset hx)⟩
theorem with_sub (l : List (It α)) (k : Nm) : (withT l k).Sublist l := List.filter_sublist
theorem with_mem {l : List (It α)} {k : Nm} {x : It α} : x ∈ withT l k ↔ x ∈ l ∧ x.key ≠ k := by simp [withT]
theorem with_key (l : List (It α)) (k : Nm) : k ∉ keysT (withT l k) := by
  intro h
  obtain ⟨x, hx, e⟩ := List.mem_map.1 h
  exact (with_mem.1 hx).2 e
theorem with_id {l : List (It α)} {k : Nm} (h : k ∉ keysT l) : withT l k = l := by
  unfold withT
  rw [List.filter_eq_self]
  intro x hx
  simp only [decide_eq_true_eq]
  intro e
  exact h (List.mem_map.2 ⟨x, hx, e⟩)
theorem fitN_le (l : List (It α)) (cap : Int) : ∀ m, fitN l cap m ≤ m := by
  intro m
  induction m with
  | zero => exact Nat.le_refl _
  | succ m ih => unfold fitN; split <;> omega
theorem fit_le (l : List (It α)) (cap : Int) : fitT l cap ≤ l.length := fitN_le l cap _
theorem fitN_used (l : List (It α)) (cap : Int) (h : 0 ≤ cap) : ∀ m, usedT (l.take (fitN l cap m)) ≤ cap := by
  intro m
  induction m with
  | zero => simpa [fitN, used_nil] using h
  | succ m ih => unfold fitN; split <;> assumption
theorem fitN_stop {l : List (It α)} {cap : Int} {j : Nat} (h : usedT (l.take j) ≤ cap) : fitN l cap j = j := by
  cases j with
  | zero => rfl
  | succ j => unfold fitN; rw [if_pos h]
theorem fitN_more {l : List (It α)} {cap : Int} {j : Nat} (h : ¬ usedT (l.take (j + 1)) ≤ cap) : fitN l cap (j + 1) = fitN l cap j := by
  rw [fitN, if_neg h]
theorem put_tok {room : Int} {l : List (It α)} (h : TOk room l) {x : It α} (hx : x.key.length ≤ 140737488351232) : TOk room (putT room l x) := by
  unfold putT
  split
  · rename_i hp
    unfold putOk at hp
    simp only [decide_eq_true_eq] at hp
    have h1 := tok_sub h ((List.take_sublist (fitT (withT l x.key) (room - x.size)) _).trans (with_sub l x.key))
    refine ⟨?_, ?_, ?_, h.rm, ?_⟩
    · show (x.key :: keysT _).Nodup
      refine List.nodup_cons.2 ⟨fun hm => with_key l x.key ?_, h1.once⟩
      obtain ⟨y, hy, e⟩ := List.mem_map.1 hm
      exact List.mem_map.2 ⟨y, List.mem_of_mem_take hy, e⟩
    · intro y hy
      rcases List.mem_cons.1 hy with e | e
      · rw [e]; exact hp.1
      · exact h1.pos y e
    · rw [used_cons]
      have := fitN_used (withT l x.key) (room - x.size) (by omega) (withT l x.key).length
      unfold fitT
      omega
    · intro y hy
      rcases List.mem_cons.1 hy with e | e
      · rw [e]; exact hx
      · exact h1.len y e
  · exact h
theorem find_some {l : List (It α)} {k : Nm} {x : It α} (h : findT l k = some x) : x ∈ l ∧ x.key = k := by
  unfold findT at h
  exact ⟨List.mem_of_find?_eq_some h, by simpa using List.find?_some h⟩
theorem find_none {l : List (It α)} {k : Nm} (h : findT l k = none) : k ∉ keysT l := by
  intro hm
  obtain ⟨x, hx, e⟩ := List.mem_map.1 hm
  unfold findT at h
  have := List.find?_eq_none.1 h x hx
  simp [e] at this
theorem with_used {l : List (It α)} (h : (keysT l).Nodup) {k : Nm} {x : It α} (hf : findT l k = some x) : usedT l = x.size + usedT (withT l k) := by
  induction l with
  | nil => cases hf
  | cons y l ih =>
    have hn : y.key ∉ keysT l ∧ (keysT l).Nodup := List.nodup_cons.1 h
    unfold findT at hf
    rw [List.find?_cons] at hf
    by_cases e : y.key = k
    · simp only [e, decide_true, Option.some.injEq] at hf
      subst hf
      have : withT (y :: l) k = l := by
        unfold withT
        rw [List.filter_cons]
        simp only [e, ne_eq, not_true_eq_false, decide_false, Bool.false_eq_true, if_false]
        exact with_id (by rw [← e]; exact hn.1)
      rw [this, used_cons]
    · simp only [e, decide_false] at hf
      have h2 : withT (y :: l) k = y :: withT l k := by
        unfold withT
        rw [List.filter_cons]
        simp [e]
      rw [h2, used_cons, used_cons, ih hn.2 hf]
      omega
theorem get_tok {room : Int} {l : List (It α)} (h : TOk room l) (k : Nm) : TOk room (getT l k) := by
  unfold getT
  cases hf : findT l k with
  | none => exact h
  | some x =>
    obtain ⟨hm, hk⟩ := find_some hf
    have h1 := tok_sub h (with_sub l k)
    refine ⟨?_, ?_, ?_, h.rm, ?_⟩
    · show (x.key :: keysT _).Nodup
      exact List.nodup_cons.2 ⟨by rw [hk]; exact with_key l k, h1.once⟩
    · intro y hy
      rcases List.mem_cons.1 hy with e | e
      · rw [e]; exact h.pos x hm
      · exact h1.pos y e
    · show usedT (x :: withT l k) ≤ room
      rw [used_cons, ← with_used h.once hf]
      exact h.fit
    · intro y hy
      rcases List.mem_cons.1 hy with e | e
      · rw [e]; exact h.len x hm
      · exact h1.len y e
theorem put_len (room : Int) (l : List (It α)) (x : It α) : (putT room l x).length ≤ l.length + 1 := by
  unfold putT
  split
  · have h1 := (with_sub l x.key).length_le
    have h2 := List.length_take_le (fitT (withT l x.key) (room - x.size)) (withT l x.key)
    have h3 := fit_le (withT l x.key) (room - x.size)
    rw [List.length_cons]
    omega
  · omega
/-! the ring -/
def Ch (O N : Nat → Nat) : Nat → List Nat → Prop
  | _, [] => True
  | a, b :: r => O a = b ∧ N b = a ∧ Ch O N b r
def updF (f : Nat → Nat) (a b : Nat) : Nat → Nat := fun k => if k = a then b else f k
theorem updF_same (f : Nat → Nat) (a b : Nat) : updF f a b a = b := if_pos rfl
theorem updF_other (f : Nat → Nat) {a k : Nat} (b : Nat) (h : k ≠ a) : updF f a b k = f k := if_neg h
theorem ch_frame {O N O' N' : Nat → Nat} : ∀ (l : List Nat) (a : Nat), Ch O N a l → (∀ k ∈ (a :: l).dropLast, O' k = O k) → (∀ k ∈ l, N' k = N k) → Ch O' N' a l := by
  intro l
  induction l with
  | nil => intro a _ _ _; trivial
  | cons b r ih =>
    intro a h hO hN
    obtain ⟨h1, h2, h3⟩ := h
    refine ⟨by rw [hO a (by simp)]; exact h1, by rw [hN b (by simp)]; exact h2, ih b h3 (fun k hk => hO k ?_) (fun k hk => hN k (by simp [hk]))⟩
    rw [List.dropLast_cons_of_ne_nil (by simp)]
    exact List.mem_cons_of_mem _ hk
theorem ch_app {O N : Nat → Nat} : ∀ (l1 : List Nat) (a b : Nat) (l2 : List Nat), Ch O N a (l1 ++ b :: l2) ↔ Ch O N a (l1 ++ [b]) ∧ Ch O N b l2 := by
  intro l1
  induction l1 with
  | nil => intro a b l2; show (_ ∧ _ ∧ _) ↔ (_ ∧ _ ∧ True) ∧ _; simp only [and_true, and_assoc]
  | cons c r ih => intro a b l2; show (_ ∧ _ ∧ Ch O N c (r ++ b :: l2)) ↔ (_ ∧ _ ∧ Ch O N c (r ++ [b])) ∧ _; rw [ih]; simp only [and_assoc]
theorem ch_prev {O N : Nat → Nat} : ∀ (l1 : List Nat) (a b : Nat) (l2 : List Nat), Ch O N a (l1 ++ b :: l2) → N b ∈ a :: l1 ∧ O (N b) = b := by
  intro l1
  induction l1 with
  | nil => intro a b l2 h; exact ⟨by rw [h.2.1]; simp, by rw [h.2.1]; exact h.1⟩
  | cons c r ih => intro a b l2 h; have := ih c b l2 h.2.2; exact ⟨List.mem_cons_of_mem _ this.1, this.2⟩
theorem ch_next {O N : Nat → Nat} {a b : Nat} {l : List Nat} (h : Ch O N a (b :: l)) : O a = b := h.1
theorem ch_leave {O N : Nat → Nat} {b x : Nat} {q : List Nat} (hx : x ∉ q) : ∀ (l1 : List Nat) (a : Nat), Ch O N a (l1 ++ b :: x :: q) → (a :: l1).Nodup → x ∉ l1 → (∀ k ∈ a :: l1, k ∉ (x :: q).dropLast) → Ch (updF O (N b) x) (updF N x (N b)) a (l1 ++ x :: q) := by
  intro l1
  induction l1 with
  | nil =>
    intro a h hn h1 h2
    obtain ⟨e1, e2, e3, e4, e5⟩ := h
    refine ⟨by rw [e2]; exact updF_same _ _ _, by rw [e2]; exact updF_same _ _ _, ch_frame q x e5 (fun k hk => updF_other _ _ ?_) (fun k hk => updF_other _ _ (fun e => hx (by rw [← e]; exact hk)))⟩
    rw [e2]
    exact fun e => h2 a (by simp) (by rw [← e]; exact hk)
  | cons c r ih =>
    intro a h hn h1 h2
    obtain ⟨e1, e2, e3⟩ := h
    have hp := (ch_prev r c b (x :: q) e3).1
    have hn' := List.nodup_cons.1 hn
    refine ⟨?_, ?_, ih c e3 hn'.2 (fun e => h1 (List.mem_cons_of_mem _ e)) (fun k hk => h2 k (List.mem_cons_of_mem _ hk))⟩
    · rw [updF_other _ _ (fun e => hn'.1 (by rw [e]; exact hp))]; exact e1
    · rw [updF_other _ _ (fun e => h1 (by rw [← e]; simp))]; exact e2
/-- one leaves the ring -/
theorem ring_leave {O N : Nat → Nat} {rb b : Nat} {l1 l2 : List Nat} (h : Ch O N rb (l1 ++ b :: l2 ++ [rb])) (hn : (rb :: (l1 ++ b :: l2)).Nodup) : Ch (updF O (N b) (O b)) (updF N (O b) (N b)) rb (l1 ++ l2 ++ [rb]) := by
  have hn1 := List.nodup_cons.1 hn
  have hn2 := List.nodup_append.1 hn1.2
  have hn3 := List.nodup_cons.1 hn2.2.1
  have hr1 : rb ∉ l1 := fun e => hn1.1 (by simp [e])
  have hr2 : rb ∉ l2 := fun e => hn1.1 (by simp [e])
  have hd : ∀ k ∈ l1, k ∉ l2 := fun k hk hk2 => hn2.2.2 k hk k (by simp [hk2]) rfl
  rw [List.append_assoc, List.cons_append] at h
  rw [List.append_assoc]
  have hb : ∀ y r, l2 ++ [rb] = y :: r → O b = y := fun y r e => by
    rw [e] at h
    exact ((ch_app l1 rb b (y :: r)).1 h).2.1
  cases l2 with
  | nil =>
    have e := hb rb [] rfl
    rw [e]
    exact ch_leave (by simp) l1 rb h (List.nodup_cons.2 ⟨hr1, hn2.1⟩) hr1 (fun k _ => by simp)
  | cons y r =>
    have e := hb y (r ++ [rb]) rfl
    rw [e]
    have hy := List.nodup_cons.1 hn3.2
    refine ch_leave (fun hm => ?_) l1 rb h (List.nodup_cons.2 ⟨hr1, hn2.1⟩) (fun hm => hd y hm (by simp)) (fun k hk => ?_)
    · rcases List.mem_append.1 hm with e | e
      · exact hy.1 e
      · exact hr2 (by rw [← List.mem_singleton.1 e]; simp)
    · show k ∉ ((y :: r) ++ [rb]).dropLast
      rw [List.dropLast_concat]
      rcases List.mem_cons.1 hk with e | e
      · rw [e]; exact hr2
      · exact hd k e
/-- one joins the ring as the first -/
theorem ring_join {O N : Nat → Nat} {rb b : Nat} {bs : List Nat} (h : Ch O N rb (bs ++ [rb])) (hn : (rb :: bs).Nodup) (hb : b ∉ rb :: bs) : Ch (updF (updF O b (O rb)) rb b) (updF (updF N b rb) (O rb) b) rb (b :: bs ++ [rb]) := by
  have hn1 := List.nodup_cons.1 hn
  have hb1 : b ≠ rb := fun e => hb (by simp [e])
  have hb2 : b ∉ bs := fun e => hb (by simp [e])
  cases bs with
  | nil =>
    have e : O rb = rb := h.1
    rw [e]
    refine ⟨updF_same _ _ _, by rw [updF_other _ _ hb1]; exact updF_same _ _ _, by rw [updF_other _ _ hb1]; exact updF_same _ _ _, updF_same _ _ _, trivial⟩
  | cons x q =>
    obtain ⟨e1, e2, e3⟩ := h
    have e : O rb = x := e1
    have hx := List.nodup_cons.1 hn1.2
    have hbx : b ≠ x := fun e => hb2 (by simp [e])
    rw [e]
    refine ⟨updF_same _ _ _, by rw [updF_other _ _ hbx]; exact updF_same _ _ _, by rw [updF_other _ _ hb1]; exact updF_same _ _ _, updF_same _ _ _, ch_frame (q ++ [rb]) x e3 (fun k hk => ?_) (fun k hk => ?_)⟩
    · rw [show x :: (q ++ [rb]) = (x :: q) ++ [rb] from rfl, List.dropLast_concat] at hk
      rw [updF_other _ _ (fun e => hn1.1 (by rw [← e]; exact hk)), updF_other _ _ (fun e => hb2 (by rw [← e]; exact hk))]
    · rcases List.mem_append.1 hk with e | e
      · rw [updF_other _ _ (fun e2 => hx.1 (by rw [← e2]; exact e)), updF_other _ _ (fun e2 => hb2 (by rw [← e2]; simp [e]))]
      · rw [List.mem_singleton.1 e, updF_other _ _ (fun e2 => hn1.1 (by rw [e2]; simp)), updF_other _ _ (fun e2 => hb1 e2.symm)]
theorem ch_at {O N : Nat → Nat} : ∀ (l : List Nat) (a : Nat), Ch O N a l → ∀ j (h : j < l.length), O ((a :: l)[j]'(by simp; omega)) = l[j] ∧ N (l[j]) = (a :: l)[j]'(by simp; omega) := by
  intro l
  induction l with
  | nil => intro a _ j h; simp at h
  | cons b r ih =>
    intro a h j hj
    cases j with
    | zero => exact ⟨h.1, h.2.1⟩
    | succ j => exact ih b h.2.2 j (by simpa using hj)
/-- the newer side of the ring's own node: the last one -/
theorem ch_last {O N : Nat → Nat} {rb b : Nat} {l : List Nat} (h : Ch O N rb (l ++ [b] ++ [rb])) : N rb = b := by
  have := (ch_app (l ++ [b]) rb rb []).1 h
  have h2 := (ch_at (l ++ [b] ++ [rb]) rb h (l.length + 1) (by simp)).2
  simpa using h2
end Go.Proofs.Ytikkmnclcbanfaa
