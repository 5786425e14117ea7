/- What is known of the type of bytes. -/
import Derived.Test.YtdoodkabmeojmabDoorRows
import Derived.WalkKit
namespace Go.Proofs.YtdoodkabmeojmabDoor
open Go.RowKit
theorem Tryd.infoB8m : (Tryd.prog.info? 5).map (fun i => (i.zero, i.size, i.bytes)) = some (some (.int .u8 0), 1, 1) := by kernel_rfl
end Go.Proofs.YtdoodkabmeojmabDoor
