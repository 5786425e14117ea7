/- The law of DiskFlush holds. -/
import Derived.Test.YtipeelkmmjgehabLwDFlush
import Derived.Test.YtipeelkmmjgehabDkG
import Derived.Test.YtipeelkmmjgehabDskG
namespace Go.Proofs.Ytipeelkmmjgehab
open Go Go.RowKit
theorem fnExactDiskFlush_walk (v : Value) (nS : Nat) (S : Nat → ByteArray) (nC : Nat) (A : Nat → Int) (X : Nat → ByteArray) (w : World) (hI : dskI w w.heap.size v nS S nC A X) (hS : nS ≤ maxLen) (hC : nC ≤ maxLen) (hSz : ∀ j, j < nS → (S j).size ≤ maxLen) (hXz : ∀ j, j < nC → (X j).size ≤ maxLen) :
    Calls Try.prog 7 #[v] w fun e w' => e = .returned (.bool true) ∧ Below w.heap.size w w' := by
  unfold maxLen at hS hC
  have hSz' : ∀ j, j < nS → (S j).size ≤ 9223372036854775807 := fun j hj => Nat.le_trans (hSz j hj) (by unfold maxLen; omega)
  have hXz' : ∀ j, j < nC → (X j).size ≤ 9223372036854775807 := fun j hj => Nat.le_trans (hXz j hj) (by unfold maxLen; omega)
  by_cases hok : dskOk nS S nC A X
  · exact fnExactDiskFlush_core v nS S nC A X nS (flS S A X (fun _ => true) nC) 0 A X w (by have := hok.1; omega) (by omega) (by omega) (by omega) hSz' hXz'
      (fun _ _ _ _ u x h => spec_diskFlush_yes x nS S nC A X u hok h)
      (fun _ _ _ _ u x h => imp_diskFlush_yes x nS S nC A X u hok h) hI
  · by_cases hb : nS ≤ 1048576 ∧ nC ≤ 1048576
    · exact fnExactDiskFlush_core v nS S nC A X nS S nC A X w hb.1 hb.2 (by omega) (by omega) hSz' hXz'
        (fun a b _ _ u x h => spec_diskFlush_no x nS S nC A X u a b hok h)
        (fun a b c d u x h => imp_diskFlush_no x nS S nC A X u a b hok c d h) hI
    · exact fnExactDiskFlush_core v nS S nC A X 0 S 0 A X w (by omega) (by omega) (by omega) (by omega) hSz' hXz' (fun a b => absurd ⟨a, b⟩ hb) (fun a b => absurd ⟨a, b⟩ hb) hI
end Go.Proofs.Ytipeelkmmjgehab
