/- Two boxes; an answer of four cells laid down. No program is named here. -/
import Derived.Test.YtipeelkmmjgehabDskT
import Derived.Test.YtipeelkmmjgehabLwDisk3
namespace Go.Proofs.Ytipeelkmmjgehab
open Go Go.RowKit
/-- A read that lies on the disk's sectors. -/
def readOk (nS : Nat) (a m : Int) : Prop := 0 ≤ m ∧ m ≤ 300 ∧ 0 ≤ a ∧ a ≤ (nS : Int) - m
theorem box2 (w : World) (a b : Obj) : Below w.heap.size w ((w.alloc a).alloc b) ∧ ((w.alloc a).alloc b).heap.size = w.heap.size + 2 ∧ ((w.alloc a).alloc b).heap[w.heap.size]? = some a ∧ ((w.alloc a).alloc b).heap[w.heap.size + 1]? = some b :=
  ⟨((Below.refl _ w).alloc (Nat.le_refl _) _).alloc (by simp) _, by simp, (Below.heap_alloc _ _ _ (by simp)).trans (heap_alloc_new _ _), by have := heap_alloc_new (w.alloc a) b; rwa [World.size_alloc] at this⟩
theorem set4_blk (w : World) (g : Nat) (x y z u a b c d : Value) (t : TypeId) (h : w.heap[g]? = some (.cells #[x, y, z, u] t)) : ((((w.setCell ⟨g, 0, none⟩ a).setCell ⟨g, 1, none⟩ b).setCell ⟨g, 2, none⟩ c).setCell ⟨g, 3, none⟩ d).heap[g]? = some (.cells #[a, b, c, d] t) := by
  simp [World.setCell, Array.getElem?_modify, h]
theorem below_set4 {B : Nat} {w W : World} (h : Below B w W) (g : Nat) (hg : B ≤ g) (a b c d : Value) : Below B w ((((W.setCell ⟨g, 0, none⟩ a).setCell ⟨g, 1, none⟩ b).setCell ⟨g, 2, none⟩ c).setCell ⟨g, 3, none⟩ d) :=
  below_set (below_set (below_set (below_set h _ 0 hg _) _ 1 hg _) _ 2 hg _) _ 3 hg _
end Go.Proofs.Ytipeelkmmjgehab
