/- A variable that holds a sector: made, stored into. -/
import Derived.Test.YtipeelkmmjgehabSecEq
import Derived.Deep.WholeRow
namespace Go.Proofs.Ytipeelkmmjgehab
open Go Go.RowKit
section
variable {P : Program} {ops : Array Oper} {rest : List Oper} {o : Oper} {a : Act} {Q : Exit → Act → World → Prop}
theorem wpList_alloc_sec (w : World) (hg : o.guard = none) (d : Option Nat) (hd : o.dst = d) (ty : TypeId) (ho : o.op = .alloc ty) (hz : (zeroValue ty).run P w = .ok (secV ⟨#[]⟩) w)
    (h : ∀ w', w'.rowIs w.heap.size ty 64 (u8V (bF ⟨#[]⟩)) → Below w.heap.size w w' → w'.heap.size = w.heap.size + 1 → wpList P ops Q rest (a.put d (.pointer (some ⟨w.heap.size, 0, none⟩))) w') : wpList P ops Q (o :: rest) a w := by
  subst hd
  refine wpList_plain hg fun K hK => ?_
  have e : (execOp a.eval o).run P w = .ok (.value (.pointer (some ⟨w.heap.size, 0, none⟩))) (w.alloc (.cells (bL 64 (bF ⟨#[]⟩)).toArray ty)) := by
    simp [execOp, ho, Instr.alloc, hz, Result.andThen, secV, newVar, Value.cells, go_sem]
  unfold Oper.wp
  rw [e]
  exact hK _ _ (h _ (row_alloc w ty 64 _) ((Below.refl _ _).alloc (Nat.le_refl _) _) (World.size_alloc _ _))
theorem wpList_store_sec (w : World) (hg : o.guard = none) (ty : TypeId) (x y : Operand) (ho : o.op = .store ty x y) (g : Nat) (T : ByteArray) (f : Nat → UInt8) (hx : a.eval x = .pointer (some ⟨g, 0, none⟩)) (hy : a.eval y = secV T) (hr : w.rowIs g ty 64 (u8V f)) (hi : (P.info? ty).map (·.size) = some 64)
    (h : ∀ w', w'.rowIs g ty 64 (u8V (bF T)) → w.grownBy w' (some g) → w'.heap.size = w.heap.size → wpList P ops Q rest (a.put o.dst undef) w') : wpList P ops Q (o :: rest) a w := by
  have th := row_there (o := 0) (n := 64) hr (by omega)
  refine wpList_store_B hg ty x y ho g 0 64 (bF T) hx hy th hi (h _ (row_setCells0 hr) ⟨?_, ?_, ?_, ?_, fun i _ hi => setCells_far g _ 0 w i (fun e => hi (by rw [e]))⟩ (size_setCells _ _ _ _))
  · exact (below_setCells' (B := g) (Below.refl g w) (Nat.le_refl _)).os
  · exact (below_setCells' (B := g) (Below.refl g w) (Nat.le_refl _)).tape
  · exact (below_setCells' (B := g) (Below.refl g w) (Nat.le_refl _)).output
  · rw [size_setCells]; exact Nat.le_refl _
end
end Go.Proofs.Ytipeelkmmjgehab
