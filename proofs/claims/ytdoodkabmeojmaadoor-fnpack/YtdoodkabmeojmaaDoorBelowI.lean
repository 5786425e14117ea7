/- The program's below. -/
import Derived.Test.YtdoodkabmeojmaaDoorRows
import Derived.Test.YtdoodkabmeojmaaDoorPackF
import Derived.WalkKit
import Derived.Below
namespace Go.Proofs.YtdoodkabmeojmaaDoor
open Go.RowKit
set_option maxRecDepth 100000 in
set_option maxHeartbeats 400000 in
theorem imp_below (node : Nat) (one : Bool) (w : World) (h : node < 100000) :
    Calls Tryd.prog 59 #[.int .i64 (node : Int), .bool one] w fun e w' => e = .returned (.int .i64 ((2 * node + bN one : Nat) : Int)) ∧ w = w' := by
  cases one with
  | true =>
    have e : ((2 * node + bN true : Nat) : Int) = 2 * (node : Int) + 1 := by show ((2 * node + 1 : Nat) : Int) = _; omega
    rw [e]
    go_enter Tryd.func59, Tryd.ntmps59
    go_wp2_with fail
    go_ret
    exact ⟨rfl, rfl⟩
  | false =>
    have e : ((2 * node + bN false : Nat) : Int) = 2 * (node : Int) := by show ((2 * node + 0 : Nat) : Int) = _; omega
    rw [e]
    go_enter Tryd.func59, Tryd.ntmps59
    go_wp2_with fail
    go_ret
    exact ⟨rfl, rfl⟩
end Go.Proofs.YtdoodkabmeojmaaDoor
