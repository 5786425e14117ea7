/- The block of a law's keys. -/
import Derived.Test.YtconcnndghmdfaaKeyO
namespace Go.Proofs.Ytconcnndghmdfaa
open Go.RowKit
/-- Where the keys' block stands, and all that was there before. -/
structure KeyL (w : World) (H M : ByteArray) (w2 : World) : Prop where
  b : Below (w.heap.size + 1) (w.alloc (.cells #[.string H, .string M] 23)) w2
theorem KeyL.size {w w2 : World} {H M : ByteArray} (h : KeyL w H M w2) : w.heap.size + 1 ≤ w2.heap.size := by have := h.b.size; simpa using this
theorem KeyL.call {w w1 w2 : World} {H M : ByteArray} (h : KeyL w H M w1) (hb : Below w1.heap.size w1 w2) : KeyL w H M w2 := ⟨h.b.trans (hb.mono h.size)⟩
theorem KeyL.call' {w w1 w2 : World} {H M : ByteArray} (h : KeyL w H M w1) (hb : Below w1.drew.heap.size w1.drew w2) : KeyL w H M w2 := ⟨h.b.drew.trans (hb.mono h.size)⟩
theorem KeyL.c0 {w w2 : World} {H M : ByteArray} (h : KeyL w H M w2) : w2.cell? ⟨w.heap.size, 0, none⟩ = some (.string H) := (keys_cells h.b (Nat.lt_succ_self _) (heap_alloc_new w _)).1
theorem KeyL.c1 {w w2 : World} {H M : ByteArray} (h : KeyL w H M w2) : w2.cell? ⟨w.heap.size, 1, none⟩ = some (.string M) := (keys_cells h.b (Nat.lt_succ_self _) (heap_alloc_new w _)).2.1
theorem KeyL.low {w w2 : World} {H M : ByteArray} (h : KeyL w H M w2) : Below w.heap.size w w2 := ((Below.refl _ _).alloc (Nat.le_refl _) _).trans (h.b.mono (Nat.le_succ _))
theorem KeyL.one {w w1 : World} {H M : ByteArray} (h : Below (w.alloc (.cells #[.string H, .string M] 23)).heap.size (w.alloc (.cells #[.string H, .string M] 23)) w1) : KeyL w H M w1 := ⟨by simpa using h⟩
end Go.Proofs.Ytconcnndghmdfaa
