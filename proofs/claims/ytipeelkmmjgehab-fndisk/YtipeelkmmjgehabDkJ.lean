/- The program's joined of one text alone. -/
import Derived.Test.YtipeelkmmjgehabJoinedI
namespace Go.Proofs.Ytipeelkmmjgehab
open Go Go.RowKit
theorem imp_join1 (x : ByteArray) (b : Nat) (w : World) (hc : w.cell? ⟨b, 0, none⟩ = some (.string x)) (hx : x.size ≤ 1048576) :
    Calls Try.prog 62 #[.slice (some ⟨b, 0, none⟩) 1 1] w fun e w' => e = .returned (.string x) ∧ Below w.heap.size w w' := by
  have e : catB [x] = x.data.toList := by simp [catB]
  have e2 : (⟨x.data.toList.toArray⟩ : ByteArray) = x := rfl
  have hl : x.data.toList.length = x.size := rfl
  have h := joined_any b [x] w (fun j hj => by
    have : j = 0 := by simp at hj; omega
    subst this; exact hc) (World.block_lt_of_cell? w _ hc) (by simp) (by rw [e]; omega)
  rw [e, e2] at h
  exact h
end Go.Proofs.Ytipeelkmmjgehab
