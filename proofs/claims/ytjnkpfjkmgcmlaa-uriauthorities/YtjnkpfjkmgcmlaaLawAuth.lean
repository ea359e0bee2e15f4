/- The walk of UriAuthorities. -/
import Derived.Test.YtjnkpfjkmgcmlaaUaI
import Derived.Test.YtjnkpfjkmgcmlaaUrI
namespace Go.Proofs.Ytjnkpfjkmgcmlaa.uriAuthorities
open Go.RowKit
theorem alive : authP [65, 46, 98, 58, 52, 52, 51] = (⟨[97, 46, 98], 443, []⟩, 0) := by kernel_rfl
set_option maxHeartbeats 2000000 in
theorem walk (s : ByteArray) (w : World) (hs : s.size ≤ 140737488351232) (hsh : w.ShapedOpen Try.prog) :
    Calls Try.prog 3 #[.string s] w fun e w' => e = .returned (.bool true) ∧ Below w.heap.size w w' := by
  have M := hide (maxV_of hsh)
  clear hsh
  have c1 := authCode ⟨#[65, 46, 98, 58, 52, 52, 51]⟩ w (by decide) M.out
  rw [show (⟨#[65, 46, 98, 58, 52, 52, 51]⟩ : ByteArray).data.toList = [65, 46, 98, 58, 52, 52, 51] from rfl, alive, show ansV (⟨[97, 46, 98], 443, []⟩, 0) = .tuple #[.agg #[.string ⟨#[97, 46, 98]⟩, .int .i64 443, .string ⟨#[]⟩], .int .i64 0] from rfl] at c1
  have c2 := fun w => authCode s w hs
  have c3 := fun w => authRef s w hs
  simp only [show ansV (authP s.data.toList) = .tuple #[.agg #[.string ⟨(authP s.data.toList).1.host.toArray⟩, .int .i64 (authP s.data.toList).1.port, .string ⟨(authP s.data.toList).1.path.toArray⟩], .int .i64 (authP s.data.toList).2] from rfl] at c2 c3
  generalize (⟨(authP s.data.toList).1.host.toArray⟩ : ByteArray) = h at c2 c3
  generalize (⟨(authP s.data.toList).1.path.toArray⟩ : ByteArray) = q at c2 c3
  generalize (authP s.data.toList).1.port = p at c2 c3
  generalize (authP s.data.toList).2 = n at c2 c3
  replace c1 := hide c1
  replace c2 := hide c2
  replace c3 := hide c3
  go_enter Try.func3, Try.ntmps3
  go_wp2_with fail
  refine c1.out.mono ?_
  rintro e w1 ⟨rfl, b1⟩
  have M1 := hide (maxV_below M.out b1)
  replace b1 := hide b1
  clear c1 M
  go_wp2_with fail
  refine (c2.out _ (maxV_below M1.out (alloc_below w1 _))).mono ?_
  rintro e w2 ⟨rfl, b2⟩
  have M2 := hide (maxV_below (maxV_below M1.out (alloc_below w1 _)) b2)
  have S2 := hide (tri_below (tri_lit w1 ⟨#[97, 46, 98]⟩ ⟨#[]⟩ 443) b2)
  have B2 : Hid (Below w.heap.size w w2) := b1.out.trans ((alloc_below w1 _).mono b1.out.size |>.trans (b2.mono (by have := b1.out.size; simp; omega)))
  have L1 := hide b1.out.size
  clear c2 M1 b1 b2
  obtain ⟨⟨x0, h0⟩, ⟨x1, h1⟩, ⟨x2, h2⟩, f0, f1, f2, hz⟩ := S2.out
  have C := hide (tri_store S2.out (.string h) (.int .i64 p) (.string q))
  have B3 := hide (put3_below (b := w1.heap.size) B2.out L1.out (.string h) (.int .i64 p) (.string q))
  have Z3 := hide (put3_size (b := w1.heap.size) (W := w2) (.string h) (.int .i64 p) (.string q))
  go_wp2_with fail
  refine (c3.out _).mono ?_
  rintro e w4 ⟨rfl, b4⟩
  have b4' : Below (put3 w1.heap.size w2 (.string h) (.int .i64 p) (.string q)).heap.size (put3 w1.heap.size w2 (.string h) (.int .i64 p) (.string q)) w4 := b4
  have D := cells_below C.out (by rw [Z3.out]; exact hz) b4'
  have B4 : Hid (Below w.heap.size w w4) := B3.out.trans (b4'.mono B3.out.size)
  have Lz : w1.heap.size < w4.heap.size := by
    have := b4'.size
    rw [Z3.out] at this
    omega
  clear b4 b4' c3 C B3 Z3 h0 h1 h2 f0 f1 f2 hz S2 B2 M2
  obtain ⟨d0, d1, d2⟩ := D
  go_wp2_with fail
  go_ret
  exact ⟨rfl, B4.out.alloc B4.out.size _⟩
end Go.Proofs.Ytjnkpfjkmgcmlaa.uriAuthorities
