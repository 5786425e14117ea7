/- The walks over the laws of Crc and CrcMore. -/
import Derived.Test.YtkhjbjggpkffkaeCrcI
namespace Go.Proofs.Ytkhjbjggpkffkae
open Go.RowKit
set_option maxRecDepth 100000 in
set_option maxHeartbeats 400000 in
theorem fnExactCrc_walk (a0 : ByteArray) (w0 : a0.size ≤ maxLen) (w : World) :
    Calls Try.prog 4 #[.string a0] w fun e w' => e = .returned (.bool true) ∧ Below w.heap.size w w' := by
  unfold maxLen at w0
  by_cases h1 : 1048576 < a0.size
  · go_enter Try.func4, Try.ntmps4
    go_wp2_with fail
    go_ret
    exact ⟨rfl, Below.refl _ _⟩
  by_cases h2 : 20000 < a0.size
  · go_enter Try.func4, Try.ntmps4
    go_wp2_with (first | (go_at_call 10; refine (spec_crc_bad a0 _ w0 h2).mono ?_; rintro e w1 ⟨rfl, rfl⟩) | (go_at_call 11; refine (impl_crc_bad a0 _ w0 h2).mono ?_; rintro e w1 ⟨rfl, rfl⟩))
    go_ret
    exact ⟨rfl, Below.refl _ _⟩
  · have h3 : a0.size ≤ 20000 := by omega
    go_enter Try.func4, Try.ntmps4
    go_wp2_with (first | (go_at_call 10; refine (spec_crc a0 _ h3).mono ?_; rintro e w1 ⟨rfl, rfl⟩) | (go_at_call 11; refine (impl_crc a0 _ h3).mono ?_; rintro e w1 ⟨rfl, rfl⟩))
    go_ret
    exact ⟨rfl, Below.refl _ _⟩

set_option maxRecDepth 100000 in
set_option maxHeartbeats 400000 in
theorem fnExactCrcMore_walk (a0 : Int) (w0 : (Lit.int .i64 a0).wf = true) (a1 : ByteArray) (w1 : a1.size ≤ maxLen) (w : World) :
    Calls Try.prog 5 #[.int .i64 a0, .string a1] w fun e w' => e = .returned (.bool true) ∧ Below w.heap.size w w' := by
  unfold maxLen at w1
  by_cases h1 : 1048576 < a1.size
  · go_enter Try.func5, Try.ntmps5
    go_wp2_with fail
    go_ret
    exact ⟨rfl, Below.refl _ _⟩
  by_cases h2 : 20000 < a1.size ∨ a0 < 0 ∨ 4294967295 < a0
  · have h3 : CrcBad a0 a1 := h2
    clear h2
    go_enter Try.func5, Try.ntmps5
    go_wp2_with (first | (go_at_call 12; refine (spec_crcMore_bad a0 a1 _ w1 h3).mono ?_; rintro e w1 ⟨rfl, rfl⟩) | (go_at_call 13; refine (impl_crcMore_bad a0 a1 _ w1 h3).mono ?_; rintro e w1 ⟨rfl, rfl⟩))
    go_ret
    exact ⟨rfl, Below.refl _ _⟩
  · obtain ⟨c, rfl⟩ := Int.eq_ofNat_of_zero_le (show 0 ≤ a0 by omega)
    have h3 : (c : Int) ≤ 4294967295 := by omega
    have h4 : a1.size ≤ 20000 := by omega
    clear h2 w0
    go_enter Try.func5, Try.ntmps5
    go_wp2_with (first | (go_at_call 12; refine (spec_crcMore c a1 _ h3 h4).mono ?_; rintro e w1 ⟨rfl, rfl⟩) | (go_at_call 13; refine (impl_crcMore c a1 _ h3 h4).mono ?_; rintro e w1 ⟨rfl, rfl⟩))
    go_ret
    exact ⟨rfl, Below.refl _ _⟩
end Go.Proofs.Ytkhjbjggpkffkae
