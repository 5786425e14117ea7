/- Numbers of 32 bits, as the digest takes them. No program is named here. -/
import Derived.Laws.BitsLemmas
import Derived.WalkKit
namespace Go.Proofs.YtconcnndghmdfaaDoor
open Go Go.RowKit

def add32 (a b : Nat) : Nat := (a + b) % 4294967296
def xor32 (a b : Nat) : Nat := (a % 4294967296) ^^^ (b % 4294967296)
def and32 (a b : Nat) : Nat := (a % 4294967296) &&& (b % 4294967296)
def or32 (a b : Nat) : Nat := (a % 4294967296) ||| (b % 4294967296)
def not32 (a : Nat) : Nat := 4294967295 - a % 4294967296
def shr32 (a k : Nat) : Nat := a / 2 ^ k
def shl32 (a k : Nat) : Nat := a * 2 ^ k % 4294967296

theorem ofInt32 (a : Nat) : (BitVec.ofInt 32 (a : Int)).toNat = a % 4294967296 := by rw [BitVec.ofInt_natCast, BitVec.toNat_ofNat]
theorem r_add (a b : Nat) : IntKind.u32.wrap ((a : Int) + (b : Int)) = ((add32 a b : Nat) : Int) := by rw [IntKind.wrap_u32]; unfold add32; omega
theorem r_xor (a b : Nat) : bits .xor .u32 (a : Int) (b : Int) = ((xor32 a b : Nat) : Int) := by
  have hx : (a % 4294967296) ^^^ (b % 4294967296) < 2 ^ 32 := Nat.xor_lt_two_pow (by omega) (by omega)
  show IntKind.u32.wrap ((BitVec.ofInt 32 (a : Int) ^^^ BitVec.ofInt 32 (b : Int)).toNat : Int) = _
  rw [BitVec.toNat_xor, ofInt32, ofInt32, IntKind.wrap_u32]; unfold xor32; omega
theorem r_and (a b : Nat) : bits .and .u32 (a : Int) (b : Int) = ((and32 a b : Nat) : Int) := by
  have hx : (a % 4294967296) &&& (b % 4294967296) < 2 ^ 32 := Nat.and_lt_two_pow _ (by omega)
  show IntKind.u32.wrap ((BitVec.ofInt 32 (a : Int) &&& BitVec.ofInt 32 (b : Int)).toNat : Int) = _
  rw [BitVec.toNat_and, ofInt32, ofInt32, IntKind.wrap_u32]; unfold and32; omega
theorem r_or (a b : Nat) : bits .or .u32 (a : Int) (b : Int) = ((or32 a b : Nat) : Int) := by
  have hx : (a % 4294967296) ||| (b % 4294967296) < 2 ^ 32 := Nat.or_lt_two_pow (by omega) (by omega)
  show IntKind.u32.wrap ((BitVec.ofInt 32 (a : Int) ||| BitVec.ofInt 32 (b : Int)).toNat : Int) = _
  rw [BitVec.toNat_or, ofInt32, ofInt32, IntKind.wrap_u32]; unfold or32; omega
theorem r_not (a : Nat) : bits .xor .u32 IntKind.u32.max (a : Int) = ((not32 a : Nat) : Int) := by
  have e : IntKind.u32.max = ((4294967295 : Nat) : Int) := by decide
  rw [e, r_xor]
  unfold xor32 not32
  have h1 : (BitVec.ofNat 32 a ^^^ BitVec.allOnes 32).toNat = (~~~ (BitVec.ofNat 32 a)).toNat := by rw [BitVec.xor_allOnes]
  rw [BitVec.toNat_xor, BitVec.toNat_not, BitVec.toNat_ofNat, BitVec.toNat_allOnes] at h1
  have e2 : (2 : Nat) ^ 32 = 4294967296 := by decide
  rw [e2] at h1
  have e3 : (4294967295 : Nat) % 4294967296 = 4294967295 := by decide
  rw [e3, Nat.xor_comm]
  have e4 : (4294967296 : Nat) - 1 = 4294967295 := by decide
  rw [e4] at h1
  rw [h1]
theorem r_shr (a k : Nat) : ((a : Int) / 2 ^ k) = ((shr32 a k : Nat) : Int) := by unfold shr32; simp
theorem r_shl (a k : Nat) : IntKind.u32.wrap ((a : Int) * 2 ^ k) = ((shl32 a k : Nat) : Int) := by
  rw [IntKind.wrap_u32]; unfold shl32
  rw [Int.natCast_emod, Int.natCast_mul, Int.natCast_pow]; rfl
/-- x turned right by k bits. -/
def turn32 (x k : Nat) : Nat := or32 (shr32 x k) (shl32 x (32 - k))
theorem lt_add (a b : Nat) : add32 a b < 4294967296 := by unfold add32; omega
theorem lt_xor (a b : Nat) : xor32 a b < 4294967296 := Nat.xor_lt_two_pow (n := 32) (by omega) (by omega)
theorem lt_or (a b : Nat) : or32 a b < 4294967296 := Nat.or_lt_two_pow (n := 32) (by omega) (by omega)
end Go.Proofs.YtconcnndghmdfaaDoor
