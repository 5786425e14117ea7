/- The walk over the model's KeysRight. -/
import Derived.Test.YtconcnndghmdfaaKeyO
import Derived.BigRegion
namespace Go.Proofs.Ytconcnndghmdfaa
open Go.RowKit
set_option maxRecDepth 100000 in
theorem spec_keysRight (H M : ByteArray) (w : World) :
    Calls Try.prog 5 #[.agg #[.string H, .string M]] w fun e w' => e = .returned (.bool (keysOk (H, M))) ∧ Below w.heap.size w w' := by
  have q0 := hide ((Below.refl w.heap.size w).alloc (Nat.le_refl _) (.cells #[.string H, .string M] 26))
  have R := hide (show keysOk (H, M) = (decide (H.size = 16) && decide (M.size = 32)) from rfl)
  by_cases h1 : H.size = 16
  · have h1' : (H.size : Int) = 16 := by omega
    by_cases h2 : M.size = 32
    · have h2' : (M.size : Int) = 32 := by omega
      have R2 := hide (show keysOk (H, M) = true by rw [R.out, decide_eq_true h1, decide_eq_true h2, Bool.and_self])
      go_enter Try.func5, Try.ntmps5
      go_wp2_with fail
      go_ret
      exact ⟨by rw [R2.out]; rfl, q0.out⟩
    · have h2' : ((M.size : Int) == 32) = false := beq_eq_false_iff_ne.2 (by omega)
      have R2 := hide (show keysOk (H, M) = false by rw [R.out, decide_eq_true h1, decide_eq_false h2, Bool.true_and])
      go_enter Try.func5, Try.ntmps5
      go_wp2_with fail
      go_ret
      exact ⟨by rw [R2.out]; rfl, q0.out⟩
  · have h1' : ((H.size : Int) == 16) = false := beq_eq_false_iff_ne.2 (by omega)
    have R2 := hide (show keysOk (H, M) = false by rw [R.out, decide_eq_false h1, Bool.false_and])
    go_enter Try.func5, Try.ntmps5
    go_wp2_with fail
    go_ret
    exact ⟨by rw [R2.out]; rfl, q0.out⟩
end Go.Proofs.Ytconcnndghmdfaa
