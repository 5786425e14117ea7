/- A text held against the empty one, as the walk spells it. No program is named here. -/
import Derived.Test.YtipeelkmmjgehaaOwn
namespace Go.Proofs.Ytipeelkmmjgehaa
open Go Go.RowKit
theorem isEmpty_yes {t : ByteArray} (h : t.size = 0) : t.toList.isEmpty = true := by
  rw [ByteArray.toList_eq, List.isEmpty_iff]
  exact List.length_eq_zero_iff.1 h
theorem isEmpty_no {t : ByteArray} (h : t.size ≠ 0) : t.toList.isEmpty = false := by
  rw [ByteArray.toList_eq, List.isEmpty_eq_false_iff]
  exact fun e => h (List.length_eq_zero_iff.2 e)
end Go.Proofs.Ytipeelkmmjgehaa
