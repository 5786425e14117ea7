/- A variable that holds a sector, made and stored into, as steps of a region that draws its order. No program is named here. -/
import Derived.Test.YtipeelkmmjgehaaSecA
import Derived.Test.YtipeelkmmjgehaaHeldOne
namespace Go.Proofs.Ytipeelkmmjgehaa
open Go Go.RowKit
section
variable {P : Program} {ops : Array Oper} {Q : Exit → Act → World → Prop}
theorem step_alloc_sec {o : Oper} {a : Act} {w : World} {K : Act → World → Prop} {E : Prop} (d : Option Nat) (hd : o.dst = d) (hg : o.guard = none) (ty : TypeId) (ho : o.op = .alloc ty) (hz : (zeroValue ty).run P w = .ok (secV ⟨#[]⟩) w)
    (h : ∀ w', w'.rowIs w.heap.size ty 64 (u8V (bF ⟨#[]⟩)) → Below w.heap.size w w' → w'.heap.size = w.heap.size + 1 → K (a.put d (.pointer (some ⟨w.heap.size, 0, none⟩))) w') : if Region.wanted o (yielded ops a.tmps) = true then Oper.wp P o a w K Q else E := by
  subst hd
  rw [if_pos (by simp [Region.wanted, hg])]
  have e : (execOp a.eval o).run P w = .ok (.value (.pointer (some ⟨w.heap.size, 0, none⟩))) (w.alloc (.cells (bL 64 (bF ⟨#[]⟩)).toArray ty)) := by
    simp [execOp, ho, Instr.alloc, hz, Result.andThen, secV, newVar, Value.cells, go_sem]
  unfold Oper.wp
  rw [e]
  exact h _ (row_alloc w ty 64 _) ((Below.refl _ _).alloc (Nat.le_refl _) _) (World.size_alloc _ _)
theorem step_store_sec {o : Oper} {a : Act} {w : World} {K : Act → World → Prop} {E : Prop} (hg : o.guard = none) (ty : TypeId) (x y : Operand) (ho : o.op = .store ty x y) (g : Nat) (T : ByteArray) (f : Nat → UInt8) (hx : a.eval x = .pointer (some ⟨g, 0, none⟩)) (hy : a.eval y = secV T) (hr : w.rowIs g ty 64 (u8V f)) (hi : (P.info? ty).map (·.size) = some 64)
    (h : ∀ w', w'.rowIs g ty 64 (u8V (bF T)) → w.grownBy w' (some g) → w'.heap.size = w.heap.size → K (a.put o.dst undef) w') : if Region.wanted o (yielded ops a.tmps) = true then Oper.wp P o a w K Q else E := by
  rw [if_pos (by simp [Region.wanted, hg])]
  have th := row_there (o := 0) (n := 64) hr (by omega)
  refine wp_store_mid ty x y ho g 0 (bL 64 (bF T)).toArray hx hy (by rw [bL_size]; exact th) (by rw [bL_size]; exact hi) (bL_all 64 _) (h _ (row_setCells0 hr) ⟨?_, ?_, ?_, ?_, fun i _ hi => setCells_far g _ 0 w i (fun e => hi (by rw [e]))⟩ (size_setCells _ _ _ _))
  · exact (below_setCells' (B := g) (Below.refl g w) (Nat.le_refl _)).os
  · exact (below_setCells' (B := g) (Below.refl g w) (Nat.le_refl _)).tape
  · exact (below_setCells' (B := g) (Below.refl g w) (Nat.le_refl _)).output
  · rw [size_setCells]; exact Nat.le_refl _
end
end Go.Proofs.Ytipeelkmmjgehaa
