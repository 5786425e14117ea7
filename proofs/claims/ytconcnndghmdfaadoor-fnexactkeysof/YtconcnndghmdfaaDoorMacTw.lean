/- The program's Mac, of a key and a text that are not too long. -/
import Derived.Test.YtconcnndghmdfaaDoorImpMac
import Derived.BigRegion
namespace Go.Proofs.YtconcnndghmdfaaDoor
open Go.RowKit Go
theorem Tab.alloc {w : World} (h : Tab w) (o : Obj) : Tab (w.alloc o) := h.below ((Below.refl w.heap.size w).alloc (Nat.le_refl _) o) h.lt
theorem Tab.low {w w' : World} (h : Tab w) (hb : Below w.heap.size w w') : Tab w' := h.below hb h.lt
theorem imp_macT (M body : ByteArray) (w : World) (hM : M.size ≤ 20000) (hb : body.size ≤ 20000) (htab : Tab w) :
    Calls Tryd.prog 9 #[.string M, .string body] w fun e w' => e = .returned (.string (macT M body)) ∧ Below w.heap.size w w' := by
  have h := impl_mac M body w htab htab.lt
  rw [show macS M body = macT M body from if_pos ⟨hM, hb⟩] at h
  exact h
end Go.Proofs.YtconcnndghmdfaaDoor
