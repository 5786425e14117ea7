/- What the rows' list gives a walk: the table of the rounds' numbers. -/
import Derived.Test.YtconcnndghmdfaaDoorImpTake
import Derived.Lib.LaidTab
import Derived.LaidMore
import Derived.Stop.Joined
namespace Go.Proofs.YtconcnndghmdfaaDoor
open Go.RowKit
theorem gTab : Tryd.prog.globalNamed "loop.example/g00320/impl.roundNums" = some 0 := by kernel_rfl
theorem gTabType : (Tryd.prog.globals[0]?).map (·.type) = some 56 := by kernel_rfl
theorem gTabCells : Tryd.prog.cellsOf 56 = 64 := by kernel_rfl
theorem gTabCell : Tryd.prog.cellsOf 33 = 1 := by kernel_rfl
def tabL : List (String × DataW Unit) := [("loop.example/g00320/impl.roundNums", Rows.laid_loop_example_g00320_impl_roundNums)]
theorem laid_plain {W : World} (h : laidMetH Tryd.prog tabL W) : laidMet Tryd.prog tabL W := by
  rw [MakeChecks.laidMetH_plain _ _ _ (by kernel_rfl)] at h; exact h
theorem tabIs {W : World} (h : laidMet Tryd.prog tabL W) : Lib.TabIs Tryd.prog W "loop.example/g00320/impl.roundNums" .u32 (shaKeys.map fun (n : Nat) => (n : Int)) :=
  Lib.tabIs_of_head (rest := []) gTab gTabType Tryd.underlying56 Tryd.underlying33 gTabCell gTabCells h
theorem tab_of_laid {W : World} (h : laidMet Tryd.prog tabL W) : Tab W := by
  intro j hj
  have hl : (shaKeys.map fun (n : Nat) => (n : Int)).length = 64 := by rw [List.length_map]; rfl
  rw [(tabIs h).cell gTab j (by omega)]
  have hj' : j < shaKeys.length := hj
  rw [List.getD_eq_getElem?_getD, List.getElem?_map, List.getElem?_eq_getElem hj', shaKey, List.getD_eq_getElem?_getD, List.getElem?_eq_getElem hj']
  rfl
theorem size_of_laid {W : World} (h : laidMet Tryd.prog tabL W) : 0 < W.heap.size :=
  block_lt_of_cell (tab_of_laid h 0 (by omega))
end Go.Proofs.YtconcnndghmdfaaDoor
