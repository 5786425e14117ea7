/- The law's own eqTextOut, at two that are alike. -/
import Derived.Test.YtiknoncalgifmaaRows
import Derived.Test.YtiknoncalgifmaaOwn
import Derived.Handy
import Derived.WalkKit
namespace Go.Proofs.Ytiknoncalgifmaa
open Go.RowKit
set_option maxRecDepth 100000 in
set_option maxHeartbeats 400000 in
theorem eqTextOut_same (t : ByteArray) (n c : Int) (w : World) :
    Calls Try.prog 19 #[.agg #[.string t, .int .i64 n, .int .i64 c], .agg #[.string t, .int .i64 n, .int .i64 c]] w fun e w' => e = .returned (.bool true) ∧ Below w.heap.size w w' := by
  go_enter Try.func19, Try.ntmps19
  go_wp2
  go_ret
  exact ⟨rfl, by go_grown⟩
end Go.Proofs.Ytiknoncalgifmaa
