/- The law of DiskRead holds. -/
import Derived.Test.YtipeelkmmjgehabLwDRead
import Derived.Test.YtipeelkmmjgehabDoutNil
import Derived.Test.YtipeelkmmjgehabDkD
import Derived.Test.YtipeelkmmjgehabDskD
namespace Go.Proofs.Ytipeelkmmjgehab
open Go Go.RowKit
theorem fnExactDiskRead_walk (v : Value) (nS : Nat) (S : Nat → ByteArray) (nC : Nat) (A : Nat → Int) (X : Nat → ByteArray) (a : Int) (_wa : (Lit.int .i64 a).wf = true) (m : Int) (_wm : (Lit.int .i64 m).wf = true) (w : World) (hI : dskI w w.heap.size v nS S nC A X) (hS : nS ≤ maxLen) (hC : nC ≤ maxLen) (hSz : ∀ j, j < nS → (S j).size ≤ maxLen) (hXz : ∀ j, j < nC → (X j).size ≤ maxLen) :
    Calls Try.prog 6 #[v, .int .i64 a, .int .i64 m] w fun e w' => e = .returned (.bool true) ∧ Below w.heap.size w w' := by
  unfold maxLen at hS hC
  have hSz' : ∀ j, j < nS → (S j).size ≤ 9223372036854775807 := fun j hj => Nat.le_trans (hSz j hj) (by unfold maxLen; omega)
  have hXz' : ∀ j, j < nC → (X j).size ≤ 9223372036854775807 := fun j hj => Nat.le_trans (hXz j hj) (by unfold maxLen; omega)
  by_cases hok : dskOk nS S nC A X
  · by_cases hr : readOk nS a m
    · obtain ⟨m, rfl⟩ : ∃ k : Nat, m = (k : Int) := ⟨m.toNat, by have := hr.1; omega⟩
      obtain ⟨a, rfl⟩ : ∃ k : Nat, a = (k : Int) := ⟨a.toNat, by have := hr.2.2.1; omega⟩
      exact fnExactDiskRead_core v nS S nC A X a m ⟨(catL (flS S A X (fun _ => true) nC) a m).toArray⟩ 0 0 S 0 A X w (by omega) (by omega) (by omega) (by omega) hSz' hXz'
        (fun _ _ _ _ u x h => dout_nil S A X (spec_diskRead_good x nS S nC A X a m u hok hr h)) (fun _ _ _ _ u x h => dout_nil S A X (imp_diskRead_good x nS S nC A X a m u hok hr h)) hI
    · exact fnExactDiskRead_core v nS S nC A X a m ⟨#[]⟩ 8 0 S 0 A X w (by omega) (by omega) (by omega) (by omega) hSz' hXz'
        (fun _ _ _ _ u x h => dout_nil S A X (spec_diskRead_range x nS S nC A X a m u hok hr h)) (fun _ _ _ _ u x h => dout_nil S A X (imp_diskRead_range x nS S nC A X a m u hok hr h)) hI
  · exact fnExactDiskRead_core v nS S nC A X a m ⟨#[]⟩ 1 0 S 0 A X w (by omega) (by omega) (by omega) (by omega) hSz' hXz'
      (fun b c _ _ u x h => dout_nil S A X (spec_diskRead_form x nS S nC A X a m u b c hok h)) (fun b c _ _ u x h => dout_nil S A X (imp_diskRead_form x nS S nC A X a m u b c hok h)) hI
end Go.Proofs.Ytipeelkmmjgehab
