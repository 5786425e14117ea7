/- The walk over the law of Unseal. -/
import Derived.Test.YtiknoncalgifmaaUnsealS
import Derived.Test.YtiknoncalgifmaaUnsealI
import Derived.Test.YtiknoncalgifmaaEqText
namespace Go.Proofs.Ytiknoncalgifmaa
open Go.RowKit

set_option maxRecDepth 100000 in
set_option maxHeartbeats 800000 in
theorem unseal_law_long (a0 : ByteArray) (w : World) (h1 : a0.size ≤ 1048576) (h2 : 20000 < a0.size) :
    Calls Try.prog 6 #[.string a0] w fun e w' => e = .returned (.bool true) ∧ Below w.heap.size w w' := by
  go_enter Try.func6, Try.ntmps6
  go_wp2_with fail
  refine (spec_unseal_long a0 _ (by omega) h2).mono ?_
  rintro e w1 ⟨rfl, hb1⟩
  unfold textOut
  go_wp2_with fail
  refine (impl_unseal_long a0 _ (by omega) h2).mono ?_
  rintro e w2 ⟨rfl, hb2⟩
  simp at hb2
  unfold textOut
  have s2 := hb2.size
  simp at s2
  obtain ⟨⟨c0, c1, c2⟩, _⟩ := out_cells (hb2.alloc s2 (.cells #[.string ⟨#[]⟩, .int .i64 0, .int .i64 2] 27)) (Nat.lt_succ_self _) (heap_alloc_new w1 _)
  go_wp2_with fail
  refine (eqTextOut_same ⟨#[]⟩ 0 2 _).mono ?_
  rintro e w3 ⟨rfl, hb3⟩
  simp at hb3
  go_wp2_with fail
  go_ret
  exact ⟨rfl, law_below hb1 hb2 hb3⟩

set_option maxRecDepth 100000 in
set_option maxHeartbeats 800000 in
theorem unseal_law_short (a0 : ByteArray) (w : World) (h1 : a0.size ≤ 1048576) (h2 : a0.size < 4) :
    Calls Try.prog 6 #[.string a0] w fun e w' => e = .returned (.bool true) ∧ Below w.heap.size w w' := by
  go_enter Try.func6, Try.ntmps6
  go_wp2_with fail
  refine (spec_unseal_short a0 _ h2).mono ?_
  rintro e w1 ⟨rfl, hb1⟩
  unfold textOut
  go_wp2_with fail
  refine (impl_unseal_short a0 _ h2).mono ?_
  rintro e w2 ⟨rfl, hb2⟩
  simp at hb2
  unfold textOut
  have s2 := hb2.size
  simp at s2
  obtain ⟨⟨c0, c1, c2⟩, _⟩ := out_cells (hb2.alloc s2 (.cells #[.string ⟨#[]⟩, .int .i64 0, .int .i64 4] 27)) (Nat.lt_succ_self _) (heap_alloc_new w1 _)
  go_wp2_with fail
  refine (eqTextOut_same ⟨#[]⟩ 0 4 _).mono ?_
  rintro e w3 ⟨rfl, hb3⟩
  simp at hb3
  go_wp2_with fail
  go_ret
  exact ⟨rfl, law_below hb1 hb2 hb3⟩

set_option maxRecDepth 100000 in
set_option maxHeartbeats 800000 in
theorem unseal_law_yes (a0 : ByteArray) (w : World) (h1 : a0.size ≤ 1048576) (h2 : a0.size ≤ 20000) (h3 : 4 ≤ a0.size) (h4 : Sealed a0) :
    Calls Try.prog 6 #[.string a0] w fun e w' => e = .returned (.bool true) ∧ Below w.heap.size w w' := by
  go_enter Try.func6, Try.ntmps6
  go_wp2_with fail
  refine (spec_unseal_yes a0 _ h2 h3 h4).mono ?_
  rintro e w1 ⟨rfl, hb1⟩
  unfold textOut
  go_wp2_with fail
  refine (impl_unseal_yes a0 _ h2 h3 h4).mono ?_
  rintro e w2 ⟨rfl, hb2⟩
  simp at hb2
  unfold textOut
  have s2 := hb2.size
  simp at s2
  obtain ⟨⟨c0, c1, c2⟩, _⟩ := out_cells (hb2.alloc s2 (.cells #[.string (bodyOf a0), .int .i64 0, .int .i64 0] 27)) (Nat.lt_succ_self _) (heap_alloc_new w1 _)
  go_wp2_with fail
  refine (eqTextOut_same (bodyOf a0) 0 0 _).mono ?_
  rintro e w3 ⟨rfl, hb3⟩
  simp at hb3
  go_wp2_with fail
  go_ret
  exact ⟨rfl, law_below hb1 hb2 hb3⟩

set_option maxRecDepth 100000 in
set_option maxHeartbeats 800000 in
theorem unseal_law_no (a0 : ByteArray) (w : World) (h1 : a0.size ≤ 1048576) (h2 : a0.size ≤ 20000) (h3 : 4 ≤ a0.size) (h4 : ¬ Sealed a0) :
    Calls Try.prog 6 #[.string a0] w fun e w' => e = .returned (.bool true) ∧ Below w.heap.size w w' := by
  go_enter Try.func6, Try.ntmps6
  go_wp2_with fail
  refine (spec_unseal_no a0 _ h2 h3 h4).mono ?_
  rintro e w1 ⟨rfl, hb1⟩
  unfold textOut
  go_wp2_with fail
  refine (impl_unseal_no a0 _ h2 h3 h4).mono ?_
  rintro e w2 ⟨rfl, hb2⟩
  simp at hb2
  unfold textOut
  have s2 := hb2.size
  simp at s2
  obtain ⟨⟨c0, c1, c2⟩, _⟩ := out_cells (hb2.alloc s2 (.cells #[.string ⟨#[]⟩, .int .i64 0, .int .i64 5] 27)) (Nat.lt_succ_self _) (heap_alloc_new w1 _)
  go_wp2_with fail
  refine (eqTextOut_same ⟨#[]⟩ 0 5 _).mono ?_
  rintro e w3 ⟨rfl, hb3⟩
  simp at hb3
  go_wp2_with fail
  go_ret
  exact ⟨rfl, law_below hb1 hb2 hb3⟩

set_option maxRecDepth 100000 in
set_option maxHeartbeats 400000 in
theorem fnExactUnseal_walk (a0 : ByteArray) (w0 : a0.size ≤ maxLen) (w : World) :
    Calls Try.prog 6 #[.string a0] w fun e w' => e = .returned (.bool true) ∧ Below w.heap.size w w' := by
  unfold maxLen at w0
  by_cases h1 : 1048576 < a0.size
  · go_enter Try.func6, Try.ntmps6
    go_wp2_with fail
    go_ret
    exact ⟨rfl, Below.refl _ _⟩
  by_cases h2 : 20000 < a0.size
  · exact unseal_law_long a0 w (by omega) h2
  by_cases h3 : a0.size < 4
  · exact unseal_law_short a0 w (by omega) h3
  rcases Classical.em (Sealed a0) with h4 | h4
  · exact unseal_law_yes a0 w (by omega) (by omega) (by omega) h4
  · exact unseal_law_no a0 w (by omega) (by omega) (by omega) h4
end Go.Proofs.Ytiknoncalgifmaa
