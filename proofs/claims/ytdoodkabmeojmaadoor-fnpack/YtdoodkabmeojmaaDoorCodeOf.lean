/- The walks over the program's codeOf. -/
import Derived.Test.YtdoodkabmeojmaaDoorAsW
import Derived.Test.YtdoodkabmeojmaaDoorOwn
import Derived.Handy
namespace Go.Proofs.YtdoodkabmeojmaaDoor
open Go.RowKit

/-- errors.errorType is laid as the program's text lays it. -/
def Laid (w : World) : Prop := w.cell? ⟨0, 0, none⟩ = some (.iface 144 (.agg #[.pointer (some ⟨1, 43, none⟩)]))
theorem Laid.pos {w : World} (h : Laid w) : 0 < w.heap.size := by
  unfold Laid at h
  rcases Nat.eq_zero_or_pos w.heap.size with h0 | h1
  · simp [World.cell?, h0] at h
  · exact h1
theorem Laid.below {w w1 : World} {n : Nat} (h : Laid w) (hb : Below n w w1) (hn : 0 < n) : Laid w1 := by
  unfold Laid at *
  rw [← h]; exact hb.cell (p := ⟨0, 0, none⟩) hn
theorem Laid.alloc {w : World} (h : Laid w) (o : Obj) : Laid (w.alloc o) := by
  have hp := h.pos
  unfold Laid at *
  rw [World.cell?_alloc_lt _ _ ⟨0, 0, none⟩ hp]; exact h

set_option maxHeartbeats 800000 in
theorem codeOf_nil (w : World) : Calls Tryd.prog 20 #[.nilIface] w fun e w' => e = .returned (.int .i64 0) ∧ Below w.heap.size w w' := by
  go_enter Tryd.func20, Tryd.ntmps20
  go_wp2_with (go_at_call 47; refine (as_nil _ _).mono ?_; rintro e w' ⟨rfl, rfl⟩)
  go_ret
  exact ⟨rfl, by go_grown⟩

set_option maxHeartbeats 800000 in
theorem codeOf_fault (c : Int) (w : World) (hg : Laid w) : Calls Tryd.prog 20 #[.iface 87 (.agg #[.int .i64 c])] w fun e w' => e = .returned (.int .i64 c) ∧ Below w.heap.size w w' := by
  have hg1 : Laid (w.alloc (.cells #[.int .i64 0] 87)) := hg.alloc _
  unfold Laid at hg1
  clear hg
  have ht1 : (w.alloc (.cells #[.int .i64 0] 87)).cell? ⟨w.heap.size, 0, none⟩ = some (.int .i64 0) := by simp
  have hf1 : (w.alloc (.cells #[.int .i64 0] 87)).frozen? ⟨w.heap.size, 0, none⟩ = false := by simp
  go_enter Tryd.func20, Tryd.ntmps20
  go_wp2_with (go_at_call 47; refine (as_hit c _ (.int .i64 0) _ hg1 ht1 hf1).mono ?_; rintro e w' ⟨rfl, rfl⟩)
  go_ret
  exact ⟨rfl, by go_grown⟩
end Go.Proofs.YtdoodkabmeojmaaDoor
