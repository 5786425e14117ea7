/- The laws' helpers on keys: szKeys, toKeys. -/
import Derived.Test.YtconcnndghmdfaaKeyO
import Derived.Test.YtconcnndghmdfaaOwn
import Derived.Handy
namespace Go.Proofs.Ytconcnndghmdfaa
open Go Go.RowKit
set_option maxRecDepth 100000 in
theorem law_toKeys (H M : ByteArray) (w : World) :
    Calls Try.prog 6 #[.agg #[.string H, .string M]] w fun e w' => e = .returned (.agg #[.string H, .string M]) ∧ Below w.heap.size w w' := by
  go_enter Try.func6, Try.ntmps6
  go_wp2_with fail
  go_returns
  exact ⟨rfl, by go_grown⟩
set_option maxRecDepth 100000 in
theorem law_szKeys_no (H M : ByteArray) (w : World) (hH : H.size ≤ maxLen) (hM : M.size ≤ maxLen) (h : 1048576 < H.size + M.size) :
    Calls Try.prog 4 #[.agg #[.string H, .string M], .int .i64 1048576] w fun e w' => e = .returned (.int .i64 (-1)) ∧ Below w.heap.size w w' := by
  have q0 := hide ((Below.refl w.heap.size w).alloc (Nat.le_refl _) (.cells #[.string H, .string M] 23))
  have hH : H.size ≤ 9223372036854775807 := hH
  have hM : M.size ≤ 9223372036854775807 := hM
  by_cases h1 : 1048576 < H.size
  · have d1 : (1048576 : Int) - (H.size : Int) < 0 := by omega
    go_enter Try.func4, Try.ntmps4
    go_wp2_with fail
    go_ret
    exact ⟨rfl, q0.out⟩
  · have d1 : ¬ (1048576 : Int) - (H.size : Int) < 0 := by omega
    have d2 : (1048576 : Int) - (H.size : Int) - (M.size : Int) < 0 := by omega
    go_enter Try.func4, Try.ntmps4
    go_wp2_with fail
    go_ret
    exact ⟨rfl, q0.out⟩
set_option maxRecDepth 100000 in
theorem law_szKeys_yes (H M : ByteArray) (w : World) (h : H.size + M.size ≤ 1048576) :
    Calls Try.prog 4 #[.agg #[.string H, .string M], .int .i64 1048576] w fun e w' => e = .returned (.int .i64 (1048576 - (H.size : Int) - (M.size : Int))) ∧ Below w.heap.size w w' := by
  have q0 := hide ((Below.refl w.heap.size w).alloc (Nat.le_refl _) (.cells #[.string H, .string M] 23))
  have d1 : ¬ (1048576 : Int) - (H.size : Int) < 0 := by omega
  have d2 : ¬ (1048576 : Int) - (H.size : Int) - (M.size : Int) < 0 := by omega
  go_enter Try.func4, Try.ntmps4
  go_wp2_with fail
  go_ret
  exact ⟨rfl, q0.out⟩
end Go.Proofs.Ytconcnndghmdfaa
