/- The walks over the model's l02Keys and l02Start. -/
import Derived.Test.YtconcnndghmdfaaDoorShaT
import Derived.Test.YtconcnndghmdfaaDoorShaF
import Derived.Deep.OwnRows
import Derived.Below
namespace Go.Proofs.YtconcnndghmdfaaDoor
open Go.RowKit
theorem row_at (k : IntKind) (l : List Nat) (i : Nat) (h : i < l.length) : (l.map fun n => Value.int k (n : Nat)).toArray[i]? = some (.int k (l.getD i 0 : Nat)) := by
  simp [h]
def keyV (j : Nat) : Value := .int .u32 (shaKey j : Nat)
def startV (j : Nat) : Value := .int .i64 (shaStart1 j : Nat)
set_option maxRecDepth 100000 in
set_option maxHeartbeats 1600000 in
theorem spec_keys (w : World) :
    Calls Tryd.prog 25 #[] w fun e w' => e = .returned (.slice (some ⟨w.heap.size, 0, none⟩) 64 64) ∧ w'.rowIs w.heap.size 33 64 keyV ∧ Below w.heap.size w w' := by
  go_enter Tryd.func25, Tryd.ntmps25
  go_wp2_with fail
  go_ret
  refine ⟨rfl, ?_, (Below.refl _ _).alloc (Nat.le_refl _) _⟩
  refine (World.rowIs_alloc w _ _ keyV ?_)
  intro i hi
  exact row_at .u32 shaKeys i hi
set_option maxRecDepth 100000 in
set_option maxHeartbeats 1600000 in
theorem spec_start (w : World) :
    Calls Tryd.prog 19 #[] w fun e w' => e = .returned (.slice (some ⟨w.heap.size, 0, none⟩) 8 8) ∧ w'.rowIs w.heap.size 2 8 startV ∧ Below w.heap.size w w' := by
  go_enter Tryd.func19, Tryd.ntmps19
  go_wp2_with fail
  go_ret
  refine ⟨rfl, ?_, (Below.refl _ _).alloc (Nat.le_refl _) _⟩
  refine (World.rowIs_alloc w _ _ startV ?_)
  intro i hi
  exact row_at .i64 shaStart i hi
end Go.Proofs.YtconcnndghmdfaaDoor
