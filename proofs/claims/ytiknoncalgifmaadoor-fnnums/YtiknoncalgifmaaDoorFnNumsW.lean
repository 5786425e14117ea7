/- The law FnNums at every pair of byte lists. -/
import Derived.Test.YtiknoncalgifmaaDoorFnNumsL
namespace Go.Proofs.YtiknoncalgifmaaDoor
open Go.RowKit

theorem row_len {k : IntKind} {w : World} {a : Option Addr} {len cap : Nat} {zs : List Int} (h : IsRow k w a len cap zs) : len ≤ 9223372036854775807 := by
  rcases h with ⟨_, h, _⟩ | ⟨_, _, h1, h2, _⟩
  · omega
  · unfold maxLen at h2; omega

set_option maxRecDepth 100000 in
set_option maxHeartbeats 400000 in
theorem fnNums_walk (a0 : Option Addr) (len0 cap0 : Nat) (z0 : List Int) (a1 : Option Addr) (len1 cap1 : Nat) (z1 : List Int) (w : World) (w0 : IsRow .u8 w a0 len0 cap0 z0) (w1 : IsRow .u8 w a1 len1 cap1 z1) (hg : Laid w) :
    Calls Tryd.prog 3 #[.slice a0 len0 cap0, .slice a1 len1 cap1] w fun e w' => e = .returned (.bool true) ∧ Below w.heap.size w w' := by
  have h0 := row_len w0
  have h1 := row_len w1
  by_cases hl0 : 1048576 < len0
  · have hl0' : 1048576 < (len0 : Int) := by omega
    clear w0 w1 hg
    go_enter Tryd.func3, Tryd.ntmps3
    go_wp2_with fail
    go_ret
    exact ⟨rfl, Below.refl _ _⟩
  by_cases hl1 : 1048576 < len1
  · have hl0' : (len0 : Int) ≤ 1048576 := by omega
    have hl1' : 1048576 < (len1 : Int) := by omega
    clear w0 w1 hg
    go_enter Tryd.func3, Tryd.ntmps3
    go_wp2_with fail
    go_ret
    exact ⟨rfl, Below.refl _ _⟩
  exact fnNums_main a0 len0 cap0 a1 len1 cap1 w hg (by omega) (by omega) (bytesIn_of_row w0) (bytesIn_of_row w1)
end Go.Proofs.YtiknoncalgifmaaDoor
