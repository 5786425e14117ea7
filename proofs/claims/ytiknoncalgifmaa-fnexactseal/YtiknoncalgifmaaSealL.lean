/- The walk over the law of Seal. -/
import Derived.Test.YtiknoncalgifmaaSealI
namespace Go.Proofs.Ytiknoncalgifmaa
open Go.RowKit
set_option maxRecDepth 100000 in
set_option maxHeartbeats 400000 in
theorem fnExactSeal_walk (a0 : ByteArray) (w0 : a0.size ≤ maxLen) (w : World) :
    Calls Try.prog 5 #[.string a0] w fun e w' => e = .returned (.bool true) ∧ Below w.heap.size w w' := by
  unfold maxLen at w0
  by_cases h1 : 1048576 < a0.size
  · go_enter Try.func5, Try.ntmps5
    go_wp2_with fail
    go_ret
    exact ⟨rfl, Below.refl _ _⟩
  by_cases h2 : 19996 < a0.size
  · go_enter Try.func5, Try.ntmps5
    go_wp2_with (first | (go_at_call 9; refine (spec_seal_long a0 _ w0 h2).mono ?_; rintro e w1 ⟨rfl, rfl⟩) | (go_at_call 8; refine (impl_seal_long a0 _ w0 h2).mono ?_; rintro e w1 ⟨rfl, rfl⟩))
    go_ret
    exact ⟨rfl, Below.refl _ _⟩
  · have h3 : a0.size ≤ 19996 := by omega
    go_enter Try.func5, Try.ntmps5
    go_wp2_with (first | (go_at_call 9; refine (spec_seal a0 _ h3).mono ?_; rintro e w1 ⟨rfl, hb1⟩) | (go_at_call 8; refine (impl_seal a0 _ h3).mono ?_; rintro e w2 ⟨rfl, hb2⟩))
    go_ret
    exact ⟨rfl, hb1.trans (hb2.mono hb1.size)⟩
end Go.Proofs.Ytiknoncalgifmaa
