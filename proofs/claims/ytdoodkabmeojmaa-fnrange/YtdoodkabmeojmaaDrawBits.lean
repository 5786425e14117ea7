/- What the model's draws of bits rest on. -/
import Derived.Test.YtdoodkabmeojmaaRangeE
import Derived.Test.YtdoodkabmeojmaaBitsC
import Derived.Test.YtdoodkabmeojmaaSrcE
import Derived.Test.YtdoodkabmeojmaaSrcS
import Derived.OwnWalk
import Derived.Deep.AppendLies
namespace Go.Proofs.Ytdoodkabmeojmaa
end Go.Proofs.Ytdoodkabmeojmaa
