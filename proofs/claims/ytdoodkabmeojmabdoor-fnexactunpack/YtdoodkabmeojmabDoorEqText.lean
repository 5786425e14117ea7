/- The law's own eqTextOut, at two that are alike. -/
import Derived.Test.YtdoodkabmeojmabDoorRows
import Derived.Test.YtdoodkabmeojmabDoorOwn
import Derived.Handy
import Derived.WalkKit
namespace Go.Proofs.YtdoodkabmeojmabDoor
open Go.RowKit
set_option maxRecDepth 100000 in
set_option maxHeartbeats 400000 in
theorem eqTextOut_same (t : ByteArray) (n c : Int) (w : World) :
    Calls Tryd.prog 6 #[.agg #[.string t, .int .i64 n, .int .i64 c], .agg #[.string t, .int .i64 n, .int .i64 c]] w fun e w' => e = .returned (.bool true) ∧ Below w.heap.size w w' := by
  go_enter Tryd.func6, Tryd.ntmps6
  go_wp2
  go_ret
  exact ⟨rfl, by go_grown⟩
end Go.Proofs.YtdoodkabmeojmabDoor
