/- The walks over the model's Digest, Mac, Stretch. -/
import Derived.Test.YtconcnndghmdfaaDoorShaM
namespace Go.Proofs.YtconcnndghmdfaaDoor
open Go.RowKit
def digestS (t : ByteArray) : ByteArray := if t.size ≤ 20000 then digestT t else ⟨#[]⟩
def macS (key text : ByteArray) : ByteArray := if key.size ≤ 20000 ∧ text.size ≤ 20000 then macT key text else ⟨#[]⟩
def stretchS (pass : ByteArray) (n : Int) : ByteArray := if pass.size ≤ 20000 ∧ 1 ≤ n ∧ n ≤ 100 then stretchT pass n.toNat else ⟨#[]⟩
end Go.Proofs.YtconcnndghmdfaaDoor
