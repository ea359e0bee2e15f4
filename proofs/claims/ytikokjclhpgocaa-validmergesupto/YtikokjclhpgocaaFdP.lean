/- Fields in plain words: the values of a name, the fields of other names, a name put in. -/
import Derived.Test.YtikokjclhpgocaaGen
import Derived.Test.YtikokjclhpgocaaFold
namespace Go.Proofs.Ytikokjclhpgocaa
open Go.RowKit
def valsOf (fs : FL) (n : List UInt8) : List (List UInt8) := (fs.filter (fun f => decide (lows f.1 = lows n))).map (fun f => f.2)
def withoutOf (fs : FL) (ns : List (List UInt8)) : FL := fs.filter (fun f => decide (lows f.1 ∉ ns.map lows))
def putOf (fs : FL) (n v : List UInt8) : FL := withoutOf fs [n] ++ [(n, v)]
/-- each text of each field is no longer than a text can be -/
def Fit (fs : FL) : Prop := ∀ f ∈ fs, f.1.length ≤ 140737488351232 ∧ f.2.length ≤ 140737488351232
theorem fit_at {fs : FL} (h : Fit fs) (k : Nat) (hk : k < fs.length) : (fs[k]).1.length ≤ 140737488351232 ∧ (fs[k]).2.length ≤ 140737488351232 := h _ (List.getElem_mem hk)
theorem fit_without {fs : FL} (h : Fit fs) (ns : List (List UInt8)) : Fit (withoutOf fs ns) := fun f hf => h f (List.mem_filter.1 hf).1
theorem fit_put {fs : FL} (h : Fit fs) {n v : List UInt8} (hn : n.length ≤ 140737488351232) (hv : v.length ≤ 140737488351232) : Fit (putOf fs n v) := by
  intro f hf
  rcases List.mem_append.1 hf with hf | hf
  · exact fit_without h _ f hf
  · obtain rfl := List.mem_singleton.1 hf; exact ⟨hn, hv⟩
theorem vals_len (fs : FL) (n : List UInt8) : (valsOf fs n).length ≤ fs.length := by
  unfold valsOf; rw [List.length_map]; exact List.length_filter_le _ _
theorem without_len (fs : FL) (ns : List (List UInt8)) : (withoutOf fs ns).length ≤ fs.length := List.length_filter_le _ _
theorem put_len (fs : FL) (n v : List UInt8) : (putOf fs n v).length ≤ fs.length + 1 := by
  have := without_len fs [n]
  unfold putOf; rw [List.length_append]; simp; omega
theorem vals_hit (fs : FL) (n : List UInt8) (k : Nat) (hk : k < fs.length) (h : lows (fs[k]).1 = lows n) : valsOf (fs.take (k + 1)) n = valsOf (fs.take k) n ++ [(fs[k]).2] := by
  unfold valsOf
  rw [List.take_succ_eq_append_getElem hk, List.filter_append, List.map_append]
  simp [h]
theorem vals_miss (fs : FL) (n : List UInt8) (k : Nat) (hk : k < fs.length) (h : ¬ lows (fs[k]).1 = lows n) : valsOf (fs.take (k + 1)) n = valsOf (fs.take k) n := by
  unfold valsOf
  rw [List.take_succ_eq_append_getElem hk, List.filter_append, List.map_append]
  simp [h]
theorem without_hit (fs : FL) (ns : List (List UInt8)) (k : Nat) (hk : k < fs.length) (h : lows (fs[k]).1 ∈ ns.map lows) : withoutOf (fs.take (k + 1)) ns = withoutOf (fs.take k) ns := by
  unfold withoutOf
  rw [List.take_succ_eq_append_getElem hk, List.filter_append]
  have : decide (lows (fs[k]).1 ∉ ns.map lows) = false := by simpa using h
  simp only [List.filter_cons, this, List.filter_nil]
  simp
theorem without_miss (fs : FL) (ns : List (List UInt8)) (k : Nat) (hk : k < fs.length) (h : lows (fs[k]).1 ∉ ns.map lows) : withoutOf (fs.take (k + 1)) ns = withoutOf (fs.take k) ns ++ [fs[k]] := by
  unfold withoutOf
  rw [List.take_succ_eq_append_getElem hk, List.filter_append]
  have : decide (lows (fs[k]).1 ∉ ns.map lows) = true := by simpa using h
  simp only [List.filter_cons, this, List.filter_nil]
  simp
theorem vals_without (fs : FL) (n : List UInt8) : valsOf (withoutOf fs [n]) n = [] := by
  unfold valsOf withoutOf
  rw [List.filter_filter, List.filter_eq_nil_iff.2, List.map_nil]
  intro f _
  simp
theorem vals_put (fs : FL) (n v : List UInt8) : valsOf (putOf fs n v) n = [v] := by
  have h := vals_without fs n
  unfold valsOf at h ⊢
  unfold putOf
  rw [List.filter_append, List.map_append, h]
  simp
theorem vals_put_other (fs : FL) (n v o : List UInt8) (hne : ¬ lows o = lows n) : valsOf (putOf fs n v) o = valsOf fs o := by
  unfold valsOf putOf withoutOf
  rw [List.filter_append, List.map_append, List.filter_filter]
  have h1 : decide (lows (n, v).1 = lows o) = false := by simpa using fun e => hne e.symm
  have h2 : (List.filter (fun f : List UInt8 × List UInt8 => decide (lows f.1 = lows o)) [(n, v)]) = [] := by
    simp only [List.filter_cons, h1, List.filter_nil]; simp
  rw [h2, List.map_nil, List.append_nil]
  congr 1
  apply List.filter_congr
  intro f _
  by_cases e : lows f.1 = lows o
  · simp [e]
    exact hne
  · simp [e]
theorem vals_without_put (fs : FL) (n v : List UInt8) : valsOf (withoutOf (putOf fs n v) [n]) n = [] := vals_without _ _
end Go.Proofs.Ytikokjclhpgocaa
