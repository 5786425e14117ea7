/- The walk over the program's Seal. -/
import Derived.Test.YtiknoncalgifmaaCrcI
import Derived.Test.YtiknoncalgifmaaSealS
import Derived.Test.YtiknoncalgifmaaJoinedT
import Derived.Handy
namespace Go.Proofs.Ytiknoncalgifmaa
open Go.RowKit
set_option maxRecDepth 100000 in
set_option maxHeartbeats 400000 in
theorem impl_seal_long (s : ByteArray) (w : World) (hs : s.size ≤ 9223372036854775807) (h : 19996 < s.size) :
    Calls Try.prog 8 #[.string s] w fun e w' => e = .returned (.string ⟨#[]⟩) ∧ w = w' := by
  go_enter Try.func8, Try.ntmps8
  go_wp2_with fail
  go_ret
  exact ⟨rfl, rfl⟩
set_option maxRecDepth 100000 in
set_option maxHeartbeats 400000 in
theorem impl_seal (s : ByteArray) (w : World) (hs : s.size ≤ 19996) :
    Calls Try.prog 8 #[.string s] w fun e w' => e = .returned (.string (sealB s)) ∧ Below w.heap.size w w' := by
  have hl := crcMore_lt 0 s.data.toList (by omega)
  go_enter Try.func8, Try.ntmps8
  go_wp2_with fail
  refine (impl_crc s _ (by omega)).mono ?_
  rintro e w1 ⟨rfl, rfl⟩
  generalize hcc : crcMore 0 s.data.toList = c at *
  have HC := hide hcc
  clear hcc
  have hl' : (c : Int) ≤ 4294967295 := by omega
  have hcw := four_conv (P := Try.prog) Try.underlying22 Try.underlying5 Try.underlying9 c hl' (w.alloc (.cells #[.int .u8 ((c : Int) % 256), .int .u8 ((c : Int) / 256 % 256), .int .u8 ((c : Int) / 65536 % 256), .int .u8 ((c : Int) / 16777216)] 41)) 41 w.heap.size (heap_alloc_new w _)
  go_wp2_with fail
  refine wp_loop_rounds 5 ?_
  repeat any_goals (rw [rounds_succ]; go_wp2_with fail)
  have h4 := fourB_size c
  refine (joined_two s _ _ _ ?_ ?_).mono ?_
  · simp
  · rw [h4]; omega
  rintro e w1 ⟨rfl, hb⟩
  go_wp2_with fail
  go_ret
  refine ⟨ret_str ?_, ((Below.refl w.heap.size w).alloc (Nat.le_refl _) _).trans (hb.mono (by simp))⟩
  unfold sealB; rw [unhide HC]
end Go.Proofs.Ytiknoncalgifmaa
