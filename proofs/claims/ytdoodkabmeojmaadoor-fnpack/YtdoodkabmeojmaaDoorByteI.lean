/- What is known of the type of bytes. -/
import Derived.Test.YtdoodkabmeojmaaDoorRows
import Derived.WalkKit
namespace Go.Proofs.YtdoodkabmeojmaaDoor
open Go.RowKit
theorem Tryd.infoB8m : (Tryd.prog.info? 5).map (fun i => (i.zero, i.size, i.bytes)) = some (some (.int .u8 0), 1, 1) := by kernel_rfl
end Go.Proofs.YtdoodkabmeojmaaDoor
