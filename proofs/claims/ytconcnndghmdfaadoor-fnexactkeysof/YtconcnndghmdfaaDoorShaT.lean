/- The walk over the model's l02Turn. -/
import Derived.Test.YtconcnndghmdfaaDoorRows
import Derived.Test.YtconcnndghmdfaaDoorSha
import Derived.Test.YtconcnndghmdfaaDoorOwn
namespace Go.Proofs.YtconcnndghmdfaaDoor
open Go.RowKit
theorem turn_eq (x k : Nat) : bits .or .u32 ((x : Int) / 2 ^ k) ((x : Int) * 2 ^ (32 - k) % 4294967296) = ((turn32 x k : Nat) : Int) := by
  have e : ((x : Int) * 2 ^ (32 - k) % 4294967296) = ((shl32 x (32 - k) : Nat) : Int) := by rw [← r_shl, IntKind.wrap_u32]
  rw [r_shr, e, r_or]; rfl
set_option maxRecDepth 100000 in
set_option maxHeartbeats 400000 in
theorem spec_turn (x k : Nat) (w : World) (hk0 : 1 ≤ k) (hk : k ≤ 31) :
    Calls Tryd.prog 24 #[.int .u32 x, .int .u64 k] w fun e w' => e = .returned (.int .u32 (turn32 x k)) ∧ w = w' := by
  go_enter Tryd.func24, Tryd.ntmps24
  go_wp2_with fail
  have ht := turn_eq x k
  simp only [ht]
  go_ret
  exact ⟨rfl, rfl⟩
theorem spec_turnI (x k : Nat) (K : Int) (hK : K = (k : Int)) (w : World) (hk0 : 1 ≤ k) (hk : k ≤ 31) :
    Calls Tryd.prog 24 #[.int .u32 x, .int .u64 K] w fun e w' => e = .returned (.int .u32 (turn32 x k)) ∧ w = w' := by
  subst hK; exact spec_turn x k w hk0 hk
theorem spec_turnK (x : Nat) (K : Int) (w : World) (h0 : 1 ≤ K) (h : K ≤ 31) :
    Calls Tryd.prog 24 #[.int .u32 x, .int .u64 K] w fun e w' => e = .returned (.int .u32 (turn32 x K.toNat)) ∧ w = w' :=
  spec_turnI x K.toNat K (by omega) w (by omega) (by omega)
end Go.Proofs.YtconcnndghmdfaaDoor
