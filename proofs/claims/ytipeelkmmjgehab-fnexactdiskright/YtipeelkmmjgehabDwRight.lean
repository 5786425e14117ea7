/- The law of DiskRight holds. -/
import Derived.Test.YtipeelkmmjgehabLwDRight
namespace Go.Proofs.Ytipeelkmmjgehab
open Go Go.RowKit
theorem fnExactDiskRight_walk (v : Value) (nS : Nat) (S : Nat → ByteArray) (nC : Nat) (A : Nat → Int) (X : Nat → ByteArray) (w : World) (hI : dskI w w.heap.size v nS S nC A X) (hS : nS ≤ maxLen) (hC : nC ≤ maxLen) (hSz : ∀ j, j < nS → (S j).size ≤ maxLen) (hXz : ∀ j, j < nC → (X j).size ≤ maxLen) :
    Calls Try.prog 4 #[v] w fun e w' => e = .returned (.bool true) ∧ Below w.heap.size w w' := by
  unfold maxLen at hS hC
  have hSz' : ∀ j, j < nS → (S j).size ≤ 9223372036854775807 := fun j hj => Nat.le_trans (hSz j hj) (by unfold maxLen; omega)
  have hXz' : ∀ j, j < nC → (X j).size ≤ 9223372036854775807 := fun j hj => Nat.le_trans (hXz j hj) (by unfold maxLen; omega)
  exact fnExactDiskRight_core v nS S nC A X w (by omega) (by omega) hSz' hXz' (fun a b _ _ u x h => spec_diskRight x nS S nC A X u a b h) (fun a b _ _ u x h => imp_diskRight x nS S nC A X u a b h) hI
end Go.Proofs.Ytipeelkmmjgehab
