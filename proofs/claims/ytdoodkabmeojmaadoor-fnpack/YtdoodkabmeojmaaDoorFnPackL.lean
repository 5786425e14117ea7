/- The walk over the law FnPack: its two contracts are the program's own. -/
import Derived.Test.YtdoodkabmeojmaaDoorFnPackM
import Derived.Test.YtdoodkabmeojmaaDoorImpUnp
import Derived.Test.YtdoodkabmeojmaaDoorImpPack
namespace Go.Proofs.YtdoodkabmeojmaaDoor
open Go.RowKit
set_option maxRecDepth 100000 in
set_option maxHeartbeats 800000 in
theorem fnPack_walk (a0 : Option Addr) (len0 cap0 : Nat) (z0 : List Int) (a1 : Option Addr) (len1 cap1 : Nat) (z1 : List Int) (w : World) (w0 : IsRow .u8 w a0 len0 cap0 z0) (w1 : IsRow .u8 w a1 len1 cap1 z1) (hg : Laid w) :
    Calls Tryd.prog 3 #[.slice a0 len0 cap0, .slice a1 len1 cap1] w fun e w' => e = .returned (.bool true) ∧ Below w.heap.size w w' := by
  have hb0 := bytesIn_of_row w0
  have hb1 := bytesIn_of_row w1
  have hm0 : len0 ≤ 9223372036854775807 := by
    rcases w0 with ⟨_, h, _⟩ | ⟨x, _, h, h2, _⟩
    · omega
    · unfold maxLen at h2; omega
  have hm1 : len1 ≤ 9223372036854775807 := by
    rcases w1 with ⟨_, h, _⟩ | ⟨x, _, h, h2, _⟩
    · omega
    · unfold maxLen at h2; omega
  clear w0 w1
  by_cases h0 : 1048576 < len0
  · clear hb0 hb1 hg
    go_enter Tryd.func3, Tryd.ntmps3
    go_wp2_with fail
    go_ret
    exact ⟨rfl, Below.refl _ _⟩
  · by_cases h1 : 1048576 < len1
    · have h0d : decide ((1048576 : Int) < (len0 : Int)) = false := decide_eq_false (by omega)
      have h1d : decide ((1048576 : Int) < (len1 : Int)) = true := decide_eq_true (by omega)
      clear hb0 hb1 hg
      go_enter Tryd.func3, Tryd.ntmps3
      go_wp2_with fail
      go_ret
      exact ⟨rfl, Below.refl _ _⟩
    · exact fnPack_main Laid (fun t w _ h => imp_pack t w (by omega)) (fun t w hg h => imp_unpack t w hg (by omega)) (fun w w' hg hb => hg.below hb hg.pos) a0 len0 cap0 a1 len1 cap1 w hg (by omega) (by omega) hb0 hb1
end Go.Proofs.YtdoodkabmeojmaaDoor
