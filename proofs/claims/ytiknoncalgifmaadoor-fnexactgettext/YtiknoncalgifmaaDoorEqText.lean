/- The law's own eqTextOut, at two that are alike. -/
import Derived.Test.YtiknoncalgifmaaDoorRows
import Derived.Test.YtiknoncalgifmaaDoorOwn
import Derived.Handy
import Derived.WalkKit
namespace Go.Proofs.YtiknoncalgifmaaDoor
open Go.RowKit
set_option maxRecDepth 100000 in
set_option maxHeartbeats 400000 in
theorem eqTextOut_same (t : ByteArray) (n c : Int) (w : World) :
    Calls Tryd.prog 14 #[.agg #[.string t, .int .i64 n, .int .i64 c], .agg #[.string t, .int .i64 n, .int .i64 c]] w fun e w' => e = .returned (.bool true) ∧ Below w.heap.size w w' := by
  go_enter Tryd.func14, Tryd.ntmps14
  go_wp2
  go_ret
  exact ⟨rfl, by go_grown⟩
end Go.Proofs.YtiknoncalgifmaaDoor
