/- The walk over the program's newParting. -/
import Derived.Test.YtdoodkabmeojmaaDoorRows
import Derived.Test.YtdoodkabmeojmaaDoorVal
import Derived.Test.YtdoodkabmeojmaaDoorRangeF
import Derived.OwnWalk
namespace Go.Proofs.YtdoodkabmeojmaaDoor
open Go.RowKit
/-- What a coder's or a decoder's block begins with: the range, the chances. -/
def parF (size : Nat) (ch : Nat → Nat) (j : Nat) : Value := if j = 0 then .int .u64 (size : Nat) else .int .u64 (ch (j - 1) : Nat)
theorem parF_one (size : Nat) (ch : Nat → Nat) (j : Nat) : (parF size ch j).oneCell' = true := by unfold parF; split <;> rfl
theorem Tryd.infoPart : (Tryd.prog.info? 61).map (fun i => (i.zero, i.size)) = some (some (.agg (vL 1601 (parF 0 fun _ => 0)).toArray), 1601) := by kernel_rfl
theorem Tryd.builtPart : Tryd.prog.built 61 [(0, .int .u64 4294967295)] = some (vL 1601 (parF 4294967295 fun _ => 0)).toArray := by kernel_rfl
end Go.Proofs.YtdoodkabmeojmaaDoor
