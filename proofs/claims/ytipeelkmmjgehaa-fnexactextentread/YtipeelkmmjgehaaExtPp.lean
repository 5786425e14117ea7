/- What a patch answers. -/
import Derived.Test.YtipeelkmmjgehaaExtM
import Derived.Test.YtipeelkmmjgehaaTextRow
namespace Go.Proofs.Ytipeelkmmjgehaa
open Go Go.RowKit
/-- The first fault of a patch. -/
def ptCode (nS : Nat) (S : Nat → ByteArray) (nC : Nat) (A : Nat → Int) (X : Nat → ByteArray) (a : Int) (n : Nat) (c : Int) : Prop :=
  (c = 1 ∧ ¬ dskOk nS S nC A X) ∨ (c = 8 ∧ dskOk nS S nC A X ∧ ¬ (0 ≤ a ∧ a ≤ 64 * (nS : Int) - (n : Int))) ∨ (c = 9 ∧ dskOk nS S nC A X ∧ (0 ≤ a ∧ a ≤ 64 * (nS : Int) - (n : Int)) ∧ 400 < nC + touchN a.toNat n) ∨ (c = 0 ∧ dskOk nS S nC A X ∧ (0 ≤ a ∧ a ≤ 64 * (nS : Int) - (n : Int)) ∧ nC + touchN a.toNat n ≤ 400)
/-- What ExtentPatch answers where there is no fault: the lists, as rows of their own. -/
def ptGood (nS : Nat) (S : Nat → ByteArray) (nC : Nat) (A : Nat → Int) (X : Nat → ByteArray) (a : Int) (t : ByteArray) (w w' : World) (sv cv : Value) : Prop :=
  w'.ownsRow w.heap.size 9 1 sv nS (sL S nS) ∧ w'.ownsRow w.heap.size 74 2 cv (nC + touchN a.toNat t.size) (wL (wrA A nC ((a.toNat / 64 : Nat) : Int)) (patX X nC (flS S A X (fun _ => true) nC) a.toNat t) (nC + touchN a.toNat t.size)) ∧ apartV sv cv
theorem wL_app (A : Nat → Int) (X : Nat → ByteArray) (nC : Nat) (F : Nat → ByteArray) (p0 : Nat) (t : ByteArray) : ∀ K, wL (wrA A nC ((p0 / 64 : Nat) : Int)) (patX X nC F p0 t) (nC + K) = wL A X nC ++ wL (fun j => ((p0 / 64 + j : Nat) : Int)) (fun j => patS F p0 t (p0 / 64 + j)) K
  | 0 => by
    rw [Nat.add_zero, show wL (fun j => ((p0 / 64 + j : Nat) : Int)) (fun j => patS F p0 t (p0 / 64 + j)) 0 = [] from rfl, List.append_nil]
    unfold wL
    apply List.map_congr_left
    intro j hj
    have hj2 := List.mem_range.1 hj
    show cWr _ _ (j / 2) (j % 2) = cWr _ _ (j / 2) (j % 2)
    unfold cWr wrA patX
    rw [if_pos (show j / 2 < nC by omega), if_pos (show j / 2 < nC by omega)]
  | K + 1 => by
    rw [← Nat.add_assoc, wL_snoc, wL_snoc, wL_app A X nC F p0 t K, List.append_assoc]
    congr 3
    · unfold wrA
      rw [if_neg (by omega), show nC + K - nC = K by omega]
      congr 1
    · unfold patX
      rw [if_neg (by omega), show nC + K - nC = K by omega]
end Go.Proofs.Ytipeelkmmjgehaa
