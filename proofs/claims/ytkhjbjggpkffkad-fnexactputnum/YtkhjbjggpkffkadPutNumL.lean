/- The walk over the law of PutNum. -/
import Derived.Test.YtkhjbjggpkffkadPutNumW
import Derived.Test.YtkhjbjggpkffkadPutNumI
namespace Go.Proofs.Ytkhjbjggpkffkad
open Go.RowKit
theorem i64_of {n : Int} (h : (Lit.int .i64 n).wf = true) : -9223372036854775808 ≤ n ∧ n ≤ 9223372036854775807 := by
  simp [Lit.wf] at h; exact ⟨Int.le_trans (by decide) h.1, h.2⟩
set_option maxHeartbeats 400000 in
theorem fnExactPutNum_walk (a0 : Int) (w0 : (Lit.int .i64 a0).wf = true) (w : World) :
    Calls Try.prog 3 #[.int .i64 a0] w fun e w' => e = .returned (.bool true) ∧ Below w.heap.size w w' := by
  have hb := i64_of w0
  go_enter Try.func3, Try.ntmps3
  go_wp2_with (first | (go_at_call 5; refine (spec_putNum a0 _ hb.1 hb.2).mono ?_; rintro e w1 ⟨rfl, hb1⟩) | (go_at_call 6; refine (impl_putNum a0 _ hb.1 hb.2).mono ?_; rintro e w2 ⟨rfl, hb2⟩))
  go_ret
  exact ⟨rfl, hb1.trans (hb2.mono hb1.size)⟩
end Go.Proofs.Ytkhjbjggpkffkad
