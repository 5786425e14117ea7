/- The walks over math/bits.RotateLeft32 (turned to the right) and the program's turnedTwice, turnedThrice. -/
import Derived.Test.YtconcnndghmdfaaDoorShaF
import Derived.Test.YtconcnndghmdfaaDoorShaT
namespace Go.Proofs.YtconcnndghmdfaaDoor
open Go.RowKit
theorem or_comm32 (a b : Nat) : or32 a b = or32 b a := by unfold or32; exact Nat.or_comm _ _
theorem rot_eq (x k S : Nat) (h : S + k = 32) : bits .or .u32 ((x : Int) * 2 ^ S % 4294967296) ((x : Int) / 2 ^ k) = ((turn32 x k : Nat) : Int) := by
  have e : ((x : Int) * 2 ^ S % 4294967296) = ((shl32 x S : Nat) : Int) := by rw [← r_shl, IntKind.wrap_u32]
  have hk : S = 32 - k := by omega
  rw [r_shr, e, r_or, or_comm32, hk]; rfl
theorem and31 : ∀ k : Fin 32, 1 ≤ k.1 → bits .and .u64 (IntKind.u64.wrap (-(k.1 : Int))) 31 = ((32 - k.1 : Nat) : Int) := by decide
set_option maxRecDepth 100000 in
set_option maxHeartbeats 400000 in
theorem rot (x k : Nat) (w : World) (hk0 : 1 ≤ k) (hk : k ≤ 31) :
    Calls Tryd.prog 29 #[.int .u32 x, .int .i64 (-(k : Int))] w fun e w' => e = .returned (.int .u32 (turn32 x k)) ∧ w = w' := by
  have hand : bits .and .u64 (IntKind.u64.wrap (-(k : Int))) 31 = ((32 - k : Nat) : Int) := and31 ⟨k, by omega⟩ hk0
  go_enter Tryd.func29, Tryd.ntmps29
  go_wp2_with fail
  have ht := rot_eq x k (32 - k) (by omega)
  have hk2 : 32 - (32 - k) = k := by omega
  rw [hk2]
  simp only [ht]
  go_ret
  exact ⟨rfl, rfl⟩
theorem rotK (x : Nat) (K : Int) (w : World) (h0 : 1 ≤ K) (h : K ≤ 31) :
    Calls Tryd.prog 29 #[.int .u32 x, .int .i64 (-K)] w fun e w' => e = .returned (.int .u32 (turn32 x K.toNat)) ∧ w = w' := by
  have := rot x K.toNat w (by omega) (by omega)
  rwa [show ((K.toNat : Nat) : Int) = K by omega] at this
set_option maxRecDepth 100000 in
set_option maxHeartbeats 400000 in
theorem twice (x : Nat) (J K : Int) (w : World) (j0 : 1 ≤ J) (j1 : J ≤ 31) (k0 : 1 ≤ K) (k1 : K ≤ 31) :
    Calls Tryd.prog 28 #[.int .u32 x, .int .i64 J, .int .i64 K] w fun e w' => e = .returned (.int .u32 (xor32 (turn32 x J.toNat) (turn32 x K.toNat))) ∧ w = w' := by
  have hx := r_xor (turn32 x J.toNat) (turn32 x K.toNat)
  go_enter Tryd.func28, Tryd.ntmps28
  go_wp2_with fail
  refine (rotK x J w j0 j1).mono ?_
  rintro e w1 ⟨rfl, rfl⟩
  go_wp2_with fail
  refine (rotK x K w k0 k1).mono ?_
  rintro e w2 ⟨rfl, rfl⟩
  go_wp2_with fail
  go_ret
  exact ⟨rfl, rfl⟩
set_option maxRecDepth 100000 in
set_option maxHeartbeats 400000 in
theorem thrice (x : Nat) (I J K : Int) (w : World) (i0 : 1 ≤ I) (i1 : I ≤ 31) (j0 : 1 ≤ J) (j1 : J ≤ 31) (k0 : 1 ≤ K) (k1 : K ≤ 31) :
    Calls Tryd.prog 27 #[.int .u32 x, .int .i64 I, .int .i64 J, .int .i64 K] w fun e w' => e = .returned (.int .u32 (xor32 (xor32 (turn32 x I.toNat) (turn32 x J.toNat)) (turn32 x K.toNat))) ∧ w = w' := by
  have hx := r_xor (xor32 (turn32 x I.toNat) (turn32 x J.toNat)) (turn32 x K.toNat)
  go_enter Tryd.func27, Tryd.ntmps27
  go_wp2_with fail
  refine (twice x I J w i0 i1 j0 j1).mono ?_
  rintro e w1 ⟨rfl, rfl⟩
  go_wp2_with fail
  refine (rotK x K w k0 k1).mono ?_
  rintro e w2 ⟨rfl, rfl⟩
  go_wp2_with fail
  go_ret
  exact ⟨rfl, rfl⟩
end Go.Proofs.YtconcnndghmdfaaDoor
