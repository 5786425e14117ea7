/- Numbers of the range coder's step: a byte more, a number shifted. No program is named here. -/
import Derived.Test.YtdoodkabmeojmaaDoorRangeC
import Derived.Laws.BitsLemmas
namespace Go.Proofs.YtdoodkabmeojmaaDoor
open Go Go.RowKit
theorem and64 (a : Nat) (ha : a < 18446744073709551616) : bits .and .u64 (a : Int) 4294967295 = ((a % 4294967296 : Nat) : Int) := by
  have hx : a &&& 4294967295 = a % 4294967296 := Nat.and_two_pow_sub_one_eq_mod a 32
  show IntKind.u64.wrap ((BitVec.ofInt 64 (a : Int) &&& BitVec.ofInt 64 ((4294967295 : Nat) : Int)).toNat : Int) = _
  rw [BitVec.toNat_and, BitVec.ofInt_natCast, BitVec.ofInt_natCast, BitVec.toNat_ofNat, BitVec.toNat_ofNat, Nat.mod_eq_of_lt ha, show 4294967295 % 2 ^ 64 = 4294967295 from rfl, hx, IntKind.wrap_u64]
  omega
theorem byN_snoc (n V : Nat) (b : UInt8) (j : Nat) (hj : j < n + 1) : byN (n + 1) (256 * V + b.toNat) j = if j = n then b else byN n V j := by
  have hb := b.toNat_lt
  unfold byN
  by_cases e : j = n
  · rw [if_pos e, e, show n + 1 - 1 - n = 0 by omega, Nat.pow_zero, Nat.div_one, show (256 * V + b.toNat) % 256 = b.toNat by omega, UInt8.ofNat_toNat]
  · rw [if_neg e, show n + 1 - 1 - j = (n - 1 - j) + 1 by omega, Nat.pow_succ, Nat.mul_comm (256 ^ (n - 1 - j)), ← Nat.div_div_eq_div_mul, show (256 * V + b.toNat) / 256 = V by omega]
theorem low_shift (L : Nat) : 256 * L / 4294967296 = 256 * (L / 4294967296) + L % 4294967296 / 16777216 ∧ 256 * L % 4294967296 = 256 * (L % 4294967296) % 4294967296 := by omega
end Go.Proofs.YtdoodkabmeojmaaDoor
