/- Keys as values: when they are right; their block. No program is walked here. -/
import Derived.Test.YtconcnndghmdfaaRows
import Derived.Test.YtconcnndghmdfaaOwn
import Derived.WalkKit
namespace Go.Proofs.Ytconcnndghmdfaa
open Go.RowKit
def keysV (k : ByteArray × ByteArray) : Value := .agg #[.string k.1, .string k.2]
def keysOk (k : ByteArray × ByteArray) : Bool := decide (k.1.size = 16) && decide (k.2.size = 32)
def idOk (id : Int) : Bool := decide (0 ≤ id) && decide (id ≤ 2000000)
theorem keys_cells {n g T : Nat} {W w1 : World} {x0 x1 : Value} (hb : Below n W w1) (hg : g < n) (hW : W.heap[g]? = some (.cells #[x0, x1] T (0, 0))) :
    w1.cell? ⟨g, 0, none⟩ = some x0 ∧ w1.cell? ⟨g, 1, none⟩ = some x1 ∧ (∀ o, w1.frozen? ⟨g, o, none⟩ = false) ∧ w1.heap[g]? = some (.cells #[x0, x1] T (0, 0)) := by
  have h := (hb.block g hg).trans hW
  refine ⟨by simp [World.cell?, h], by simp [World.cell?, h], fun o => by simp [World.frozen?, h], h⟩
theorem keys_set {w1 : World} {g T : Nat} {x0 x1 a b : Value} (h : w1.heap[g]? = some (.cells #[x0, x1] T (0, 0))) :
    ((w1.setCell ⟨g, 0, none⟩ a).setCell ⟨g, 1, none⟩ b).heap[g]? = some (.cells #[a, b] T (0, 0)) := by simp [World.setCell, Array.getElem?_modify, h]
theorem keys_below {w w1 : World} {o : Obj} {a b : Value} (hb : Below (w.heap.size + 1) (w.alloc o) w1) :
    Below w.heap.size w ((w1.setCell ⟨w.heap.size, 0, none⟩ a).setCell ⟨w.heap.size, 1, none⟩ b) :=
  ((((Below.refl _ _).alloc (Nat.le_refl _) o).trans (hb.mono (Nat.le_succ _))).setCell (Nat.le_refl _) _).setCell (Nat.le_refl _) _
/-- The first bytes of a text. -/
theorem run_front {P : Program} (w : World) (t : TypeId) (s : ByteArray) (A : Nat) (h : P.underlying t = some .string) (hS : A ≤ s.size) :
    (Instr.slice t (.string s) none (some (.int .i64 (A : Int))) none).run P w = .ok (.string (s.extract 0 A)) w := by
  rw [run_slice_string_to_if w t s .i64 _ h, if_pos (by omega), Int.toNat_natCast]
end Go.Proofs.Ytconcnndghmdfaa
