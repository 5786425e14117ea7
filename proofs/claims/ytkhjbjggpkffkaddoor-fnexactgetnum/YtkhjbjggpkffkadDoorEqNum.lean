/- The law's own eqNumOut, at two that are alike. -/
import Derived.Test.YtkhjbjggpkffkadDoorRows
import Derived.Test.YtkhjbjggpkffkadDoorOwn
import Derived.Handy
import Derived.WalkKit
namespace Go.Proofs.YtkhjbjggpkffkadDoor
open Go.RowKit
set_option maxRecDepth 100000 in
set_option maxHeartbeats 400000 in
theorem eqNumOut_same (t n c : Int) (w : World) :
    Calls Tryd.prog 7 #[.agg #[.int .i64 t, .int .i64 n, .int .i64 c], .agg #[.int .i64 t, .int .i64 n, .int .i64 c]] w fun e w' => e = .returned (.bool true) ∧ Below w.heap.size w w' := by
  go_enter Tryd.func7, Tryd.ntmps7
  go_wp2
  go_ret
  exact ⟨rfl, by go_grown⟩
end Go.Proofs.YtkhjbjggpkffkadDoor
